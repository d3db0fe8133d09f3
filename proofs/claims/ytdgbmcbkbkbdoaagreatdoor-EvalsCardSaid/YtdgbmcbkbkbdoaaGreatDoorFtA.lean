import Derived.Test.YtdgbmcbkbkbdoaaGreatDoorEvG
namespace Go.Proofs.YtdgbmcbkbkbdoaaGreatDoor
open Go.RowKit
set_option maxRecDepth 100000 in
set_option maxHeartbeats 3200000 in
theorem fits_any (v : Value) (xs : List LItem) (vl : Value) (vals : List Int) (w : World) (hit : ItemsV w v xs) (hlen : xs.length ≤ 12) (hvl : SlAt w 1 vl vals.length (ints vals)) :
  Calls Tryz.prog 37 #[v, vl] w fun e w' => e = .returned (.bool (fitsP (xs.map LItem.it) vals)) ∧ Below w.heap.size w w' := by
 obtain ⟨io, ic, rfl⟩ := hit.1.form
 obtain ⟨vo, vc, rfl⟩ := hvl.form
 have HI := hide hit
 have HV := hide hvl
 clear hit hvl
 go_enter Tryz.func37, Tryz.ntmps37
 go_wp2_with fail
 go_loopg [5, 10] xs.length (fun g n i wr => ∃ j : Nat, j ≤ xs.length ∧ g = xs.length - j ∧ i = .int .i64 (j : Int) ∧ n = .int .i64 (inputsTo (xs.map LItem.it) j : Int) ∧ Below w.heap.size w wr)
 case atStart => exact ⟨0, by omega, rfl, rfl, by simp [inputsTo], Below.refl _ _⟩
 case round =>
  obtain ⟨j, hj, hg, rfl, rfl, hb⟩ := hrel
  have A : Aside (gk = xs.length - j ∧ Below w.heap.size w wr) := ⟨hg, hb⟩
  have hile := inputsTo_le (xs.map LItem.it) j
  clear hg
  by_cases hlt : j < xs.length
  ·rcases (uh HI).1 with ⟨h0, _⟩ | ⟨g, cap', hv, hc, hm, hgl, hx⟩
   ·omega
   simp only [Value.slice.injEq] at hv
   obtain ⟨rfl, _, rfl⟩ := hv
   have key : ∀ i, i < 7 → wr.cell? ⟨g, j * 7 + i, none⟩ = (itCells xs[j])[i]? := fun i hi => by
    rw [hb.cell (p := ⟨g, j * 7 + i, none⟩) hgl, hx _ (by omega)]
    exact flat_at itCells 7 (fun _ => rfl) xs j i hlt hi
   have k0 := key 0 (by omega)
   have k1 := key 1 (by omega)
   have k2 := key 2 (by omega)
   have k3 := key 3 (by omega)
   have k4 := key 4 (by omega)
   have k5 := key 5 (by omega)
   have k6 := key 6 (by omega)
   simp only [itCells, icells, List.getElem?_cons_zero, List.getElem?_cons_succ, Nat.add_zero] at k0 k1 k2 k3 k4 k5 k6
   have hji : j < (xs.map LItem.it).length := by simpa using hlt
   have hxe : (xs.map LItem.it)[j] = xs[j].it := by simp
   have hjc : (j : Int) < xs.length := by omega
   have his := inputsTo_succ hji
   rw [hxe] at his
   have hxi := (uh HI).2 xs[j] (List.getElem_mem hlt)
   generalize xs[j] = x at *
   obtain ⟨co, cc, hcv⟩ := hxi.1.form
   obtain ⟨ro, rc, hrv⟩ := hxi.2.2.1.form
   obtain ⟨⟨nm, bT, mk, po, cs, dr, rl⟩, cv, rv0, zv⟩ := x
   simp only at k0 k1 k2 k3 k4 k5 k6 hcv hrv his
   subst hcv hrv
   have HIS := hide his
   clear key hx hc hm hgl hb hxi hxe his
   cases bT with
   | true =>
    go_wp2_with fail
    go_roundg (xs.length - (j + 1))
    case measure => have := A.out.1; omega
    case rel => exact ⟨j + 1, by omega, rfl, by go_num, by rw [uh HIS]; rfl, A.out.2.alloc (A.out.2.size) _⟩
   | false =>
    go_wp2_with fail
    go_roundg (xs.length - (j + 1))
    case measure => have := A.out.1; omega
    case rel => exact ⟨j + 1, by omega, rfl, by go_num, by rw [uh HIS]; simp, A.out.2.alloc (A.out.2.size) _⟩
  ·have hje : j = xs.length := by omega
   have hjc : ¬ (j : Int) < xs.length := by omega
   have hinp : inputsTo (xs.map LItem.it) j = inputsP (xs.map LItem.it) := by unfold inputsP; rw [hje]; simp
   rw [hinp] at *
   by_cases heq : vals.length = inputsP (xs.map LItem.it)
   ·have heqb : ((vals.length : Int) == (inputsP (xs.map LItem.it) : Int)) = true := by simp; omega
    have HFI : Hid (fitsP (xs.map LItem.it) vals = !(vals.any numBeyond)) := hide (by unfold fitsP; simp [heq])
    have HVr := hide ((uh HV).below hb)
    have hv12 : vals.length ≤ 100000 := by
     rw [heq]
     have := inputsTo_le (xs.map LItem.it) (xs.map LItem.it).length
     unfold inputsP
     rw [List.length_map] at this ⊢
     omega
    clear hje hb heq hinp
    go_wp2_with fail
    refine (containsInts_any _ _ _ (uh HVr) hv12).mono ?_
    rintro e w2 ⟨rfl, hb2⟩
    have HB2 := hide (below_after A.out.2 hb2)
    clear hb2
    go_wp2
    go_ret
    exact ⟨ret_bool (uh HFI).symm, uh HB2⟩
   ·have heqb : ((vals.length : Int) == (inputsP (xs.map LItem.it) : Int)) = false := by simp; omega
    have HFI : Hid (fitsP (xs.map LItem.it) vals = false) := hide (by unfold fitsP; simp [heq])
    clear hje hb heq hinp
    go_wp2_with fail
    go_ret
    exact ⟨ret_bool (uh HFI).symm, A.out.2⟩
set_option maxHeartbeats 400000 in
theorem isSet_any (n : Int) (w : World) :
  Calls Tryz.prog 36 #[.int .i64 n] w fun e w' => e = .returned (.bool (decide (0 ≤ n ∧ n ≤ 7))) ∧ Below w.heap.size w w' := by
 by_cases h1 : 0 ≤ n
 ·go_enter Tryz.func36, Tryz.ntmps36
  go_wp2
  go_ret
  refine ⟨ret_bool ?_, Below.refl _ _⟩
  rw [Bool.eq_iff_iff]
  simp
  omega
 ·go_enter Tryz.func36, Tryz.ntmps36
  go_wp2
  go_ret
  refine ⟨ret_bool ?_, Below.refl _ _⟩
  rw [Bool.eq_iff_iff]
  simp
  omega
end Go.Proofs.YtdgbmcbkbkbdoaaGreatDoor
namespace Go.Proofs.YtdgbmcbkbkbdoaaGreatDoor
open Go.RowKit
theorem bits_or7 {a b : Nat} (ha : a ≤ 7) (hb : b ≤ 7) : bits .or .i64 (a : Int) (b : Int) = ((a ||| b : Nat) : Int) := by
 have key : ∀ a : Fin 8, ∀ b : Fin 8, bits .or .i64 (a.val : Int) (b.val : Int) = ((a.val ||| b.val : Nat) : Int) := by decide
 exact key ⟨a, by omega⟩ ⟨b, by omega⟩
theorem bits_not7 {a b : Nat} (ha : a ≤ 7) (hb : b ≤ 7) : bits .andNot .i64 (a : Int) (b : Int) = ((a &&& (7 - b) : Nat) : Int) := by
 have key : ∀ a : Fin 8, ∀ b : Fin 8, bits .andNot .i64 (a.val : Int) (b.val : Int) = ((a.val &&& (7 - b.val) : Nat) : Int) := by decide
 exact key ⟨a, by omega⟩ ⟨b, by omega⟩
theorem labz_at {l : List Nat} {n i j : Nat} (h : i < j) (hj : j ≤ l.length) : (intsZ (l.map Int.ofNat) n)[i]? = some (.int .i64 (l.getD i 0 : Int)) := by
 have hi : i < l.length := by omega
 unfold intsZ ints
 rw [List.getElem?_append_left (by simpa using hi), getD_at _ _ hi]
 simp [hi]
theorem getD_le7 {l : List Nat} (h : ∀ x ∈ l, x ≤ 7) (i : Nat) : l.getD i 0 ≤ 7 := by
 rw [List.getD_eq_getElem?_getD]
 cases hq : l[i]? with
 | none => simp
 | some y => exact h y (List.mem_of_getElem? hq)
set_option maxRecDepth 100000 in
set_option maxHeartbeats 3200000 in
theorem labels_any (v : Value) (xs : List LItem) (w : World) (hit : ItemsV w v xs) (ok : OkPlan (xs.map LItem.it)) :
  Calls Tryz.prog 41 #[v] w fun e w' => ∃ lv, e = .returned lv ∧ Below w.heap.size w w' ∧ w'.ownsRow w.heap.size 3 1 lv (labsP (xs.map LItem.it)).length (nats (labsP (xs.map LItem.it))) := by
 obtain ⟨io, ic, rfl⟩ := hit.1.form
 have hlen : xs.length ≤ 12 := by have := ok.len; simpa using this
 have HI := hide hit
 have HK := hide ok
 clear hit ok
 have hmk := run_make_row' (P := Tryz.prog) 25 3 (.int .i64 0) 8 Tryz.underlying25 Tryz.info_int rfl .i64 .i64 xs.length (by omega) (by omega)
 go_enter Tryz.func41, Tryz.ntmps41
 go_wp2_with fail
 rw [made_ints]
 obtain ⟨its, hits⟩ : ∃ its, its = xs.map LItem.it := ⟨_, rfl⟩
 have HITS := hide hits
 go_loopg [14] xs.length (fun g i wr => ∃ j : Nat, j ≤ xs.length ∧ g = xs.length - j ∧ i = .int .i64 (j : Int) ∧ Below w.heap.size w wr ∧ wr.heap[w.heap.size]? = some (.cells (intsZ ((labsTo its j).map Int.ofNat) xs.length).toArray 3))
 case atStart => exact ⟨0, by omega, rfl, rfl, (Below.refl _ _).alloc (Nat.le_refl _) _, by simpa [labsTo] using alloc_last w (.cells (intsZ [] xs.length).toArray 3)⟩
 case round =>
  obtain ⟨j, hj, hg, rfl, hb, harr⟩ := hrel
  have A : Aside (gk = xs.length - j ∧ Below w.heap.size w wr ∧ wr.heap[w.heap.size]? = some (.cells (intsZ ((labsTo its j).map Int.ofNat) xs.length).toArray 3)) := ⟨hg, hb, harr⟩
  clear hg
  by_cases hlt : j < xs.length
  ·rcases (uh HI).1 with ⟨h0, _⟩ | ⟨g, cap', hv, hc, hm, hgl, hx⟩
   ·omega
   simp only [Value.slice.injEq] at hv
   obtain ⟨rfl, _, rfl⟩ := hv
   have key : ∀ i, i < 7 → wr.cell? ⟨g, j * 7 + i, none⟩ = (itCells xs[j])[i]? := fun i hi => by
    rw [hb.cell (p := ⟨g, j * 7 + i, none⟩) hgl, hx _ (by omega)]
    exact flat_at itCells 7 (fun _ => rfl) xs j i hlt hi
   have k0 := key 0 (by omega)
   have k1 := key 1 (by omega)
   have k2 := key 2 (by omega)
   have k3 := key 3 (by omega)
   have k4 := key 4 (by omega)
   have k5 := key 5 (by omega)
   have k6 := key 6 (by omega)
   simp only [itCells, icells, List.getElem?_cons_zero, List.getElem?_cons_succ, Nat.add_zero] at k0 k1 k2 k3 k4 k5 k6
   have hji : j < (xs.map LItem.it).length := by simpa using hlt
   have hxe : (xs.map LItem.it)[j] = xs[j].it := by simp
   have hjc : (j : Int) < xs.length := by omega
   have hls := labsTo_succ hji
   have hah := (uh HK).ahead j hji
   have hmk7 := (uh HK).marks _ (List.getElem_mem hji)
   have hcl := (uh HK).clen _ (List.getElem_mem hji)
   have hle7 := labsTo_le (fun it hi => ((uh HK).marks it hi).1) j
   rw [hxe] at hls hah hmk7 hcl
   have hxi := (uh HI).2 xs[j] (List.getElem_mem hlt)
   generalize xs[j] = x at *
   obtain ⟨co, cc, hcv⟩ := hxi.1.form
   obtain ⟨ro, rc, hrv⟩ := hxi.2.2.1.form
   obtain ⟨⟨nm, bT, mk, po, cs, dr, rl⟩, cv, rv0, zv⟩ := x
   simp only at k0 k1 k2 k3 k4 k5 k6 hcv hrv hls hah hmk7 hcl
   subst hcv hrv
   rw [← hits] at hls hah hle7
   have HLS := hide hls
   have HAH := hide hah
   have HLE := hide hle7
   have HXI := hide (hxi.below hb)
   have hsw := lt_of_block harr
   have hbi : Below wr.heap.size wr (wr.alloc (.cells #[.string nm, .bool bT, .int .i64 (mk : Int), .int .u8 po, .slice co cs.length cc, .int .i64 (dr : Int), .slice ro rl.length rc] 114)) := (Below.refl _ wr).alloc (Nat.le_refl _) _
   have HBI := hide hbi
   have HNI := hide (alloc_last wr (.cells #[.string nm, .bool bT, .int .i64 (mk : Int), .int .u8 po, .slice co cs.length cc, .int .i64 (dr : Int), .slice ro rl.length rc] 114))
   clear key hx hc hm hgl hb hxi hxe hls hah hle7 hbi harr
   go_wp2_with fail
   obtain ⟨w1, hw1⟩ : ∃ w1, w1 = wr.alloc (.cells #[.string nm, .bool bT, .int .i64 (mk : Int), .int .u8 po, .slice co cs.length cc, .int .i64 (dr : Int), .slice ro rl.length rc] 114) := ⟨_, rfl⟩
   rw [← hw1] at HBI HNI ⊢
   have hsz1 : wr.heap.size < w1.heap.size := lt_of_block (uh HNI)
   have hsz2 : w.heap.size < w1.heap.size := by omega
   clear hw1 k0 k1 k2 k3 k4 k5 k6
   go_loopg [6, 24] cs.length (fun g lb i wx => ∃ m : Nat, m ≤ cs.length ∧ g = cs.length - m ∧ i = .int .i64 (m : Int) ∧ lb = .int .i64 (colLab its (labsTo its j) (cs.take m) mk : Int) ∧ Below w1.heap.size w1 wx)
   case atStart => exact ⟨0, by omega, rfl, rfl, by simp [colLab], Below.refl _ _⟩
   case round =>
    obtain ⟨m, hm, hg, rfl, rfl, hb⟩ := hrel
    have B : Aside (gk = cs.length - m ∧ Below w1.heap.size w1 wr) := ⟨hg, hb⟩
    clear hg
    by_cases hmt : m < cs.length
    ·rcases (uh HXI).1.below (uh HBI) with ⟨h0, _⟩ | ⟨g2, cap2, hv2, hc2, hm2, hgl2, hx2⟩
     ·simp only at h0; omega
     simp only [Value.slice.injEq] at hv2
     obtain ⟨rfl, _, rfl⟩ := hv2
     have k0 : wr.cell? ⟨g2, m, none⟩ = some (.string cs[m]) := by
      rw [hb.cell (p := ⟨g2, m, none⟩) hgl2, hx2 m (by simp; omega)]
      simp [hmt]
     obtain ⟨pn, hpn, hpl⟩ := uh HAH cs[m] (List.getElem_mem hmt)
     have hst : colLab its (labsTo its j) (cs.take (m + 1)) mk = colLab its (labsTo its j) (cs.take m) mk ||| (labsTo its j).getD pn 0 := by
      rw [List.take_succ_eq_append_getElem hmt]
      unfold colLab
      rw [List.foldl_append, List.foldl_cons, List.foldl_nil, hpn, Int.toNat_natCast]
     generalize cs[m] = col at *
     have hmc : (m : Int) < cs.length := by omega
     have HST := hide hst
     have HPN := hide hpn
     have HIr := hide ((uh HI).below (below_after A.out.2.1 (below_after (uh HBI) hb)))
     clear hx2 hc2 hm2 hb hst hpn hits
     go_wp2_with fail
     refine (place_any _ xs col _ (uh HIr) (by omega)).mono ?_
     rintro e w2 ⟨rfl, hb2⟩
     rw [← uh HITS, uh HPN]
     have hba := below_after (below_after (uh HBI) B.out.2) hb2
     have harr2 := (hba.block _ (lt_of_block A.out.2.2)).trans A.out.2.2
     have l0 : w2.cell? ⟨w.heap.size, pn, none⟩ = some (.int .i64 ((labsTo its j).getD pn 0 : Int)) := by
      rw [(arr_cell harr2 _).1]
      exact labz_at hpl (by rw [labsTo_len]; exact Nat.le_refl _)
     have hv7 : (labsTo its j).getD pn 0 ≤ 7 := getD_le7 (uh HLE) pn
     have hc7 : colLab its (labsTo its j) (cs.take m) mk ≤ 7 := colLab_le its _ (uh HLE) _ _ hmk7.1
     generalize (labsTo its j).getD pn 0 = y at *
     generalize colLab its (labsTo its j) (cs.take m) mk = z at *
     have hpc : (pn : Int) < xs.length := by omega
     have HB2 := hide (below_after B.out.2 hb2)
     have hs2 := lt_of_block harr2
     clear hb2 hba harr2
     go_wp2_with fail
     rw [bits_or7 hc7 hv7]
     go_roundg (cs.length - (m + 1))
     case measure => have := B.out.1; omega
     case rel => exact ⟨m + 1, by omega, rfl, by go_num, by rw [uh HST], uh HB2⟩
    ·have hme : m = cs.length := by omega
     have hmc : ¬ (m : Int) < cs.length := by omega
     have hc7 : colLab its (labsTo its j) (cs.take m) mk ≤ 7 := colLab_le its _ (uh HLE) _ _ hmk7.1
     have HST : Hid (labsTo its (j + 1) = labsTo its j ++ [colLab its (labsTo its j) (cs.take m) mk &&& (7 - dr)]) := hide (by
      rw [uh HLS, hme, List.take_length]; rfl)
     generalize colLab its (labsTo its j) (cs.take m) mk = z at *
     have hba := below_after (uh HBI) hb
     have harr2 := (hba.block _ (lt_of_block A.out.2.2)).trans A.out.2.2
     have hNi2 := (hb.block _ (lt_of_block (uh HNI))).trans (uh HNI)
     obtain ⟨⟨c0, c1, c2, c3, c4, c5, c6⟩, f0, f1, f2, f3, f4, f5, f6⟩ := cells7 hNi2
     have hs3 := lt_of_block hNi2
     have e0 : wr.cell? ⟨w.heap.size, j, none⟩ = some (.int .i64 0) := by
      rw [(arr_cell harr2 _).1]
      unfold intsZ
      rw [List.getElem?_append_right (by simp [ints, labsTo_len]), List.getElem?_replicate, if_pos (by simp [ints, labsTo_len]; omega)]
     have e1 := (arr_cell harr2 j).2
     have hs2 := lt_of_block harr2
     have HSET : Hid ((wr.setCell ⟨w.heap.size, j, none⟩ (.int .i64 ((z &&& (7 - dr) : Nat) : Int))).heap[w.heap.size]? = some (.cells (intsZ ((labsTo its (j + 1)).map Int.ofNat) xs.length).toArray 3)) := hide (by
      rw [heap_set_same harr2]
      have := intsZ_set (l := (labsTo its j).map Int.ofNat) (n := xs.length) (by simp [labsTo_len]; omega) ((z &&& (7 - dr) : Nat) : Int)
      rw [List.length_map, labsTo_len] at this
      rw [this, uh HST, List.map_append]
      rfl)
     have HB2 := hide (below_after A.out.2.1 hba)
     clear hme hb hba harr2 hNi2 c0 c1 c2 c3 c4 c6 f0 f1 f2 f3 f4 f6 hits
     go_wp2_with fail
     rw [bits_not7 hc7 hmk7.2]
     go_roundg (xs.length - (j + 1))
     case measure => have := A.out.1; omega
     case rel => exact ⟨j + 1, by omega, rfl, by go_num, (uh HB2).setCell (p := ⟨w.heap.size, j, none⟩) (Nat.le_refl _) _, uh HSET⟩
  ·have hje : j = xs.length := by omega
   have hjc : ¬ (j : Int) < xs.length := by omega
   have HSL : Hid (wr.ownsRow w.heap.size 3 1 (.slice (some ⟨w.heap.size, 0, none⟩) xs.length xs.length) (labsP (xs.map LItem.it)).length (nats (labsP (xs.map LItem.it)))) := hide (by
    have hl : (labsP (xs.map LItem.it)).length = xs.length := by unfold labsP; rw [labsTo_len]; simp
    have h1 : (labsTo its j).map Int.ofNat = (labsP (xs.map LItem.it)).map Int.ofNat := by rw [hits, hje]; unfold labsP; simp
    rw [h1] at harr
    rw [show intsZ ((labsP (xs.map LItem.it)).map Int.ofNat) xs.length = nats (labsP (xs.map LItem.it)) by
     rw [← hl]
     have := intsZ_full ((labsP (xs.map LItem.it)).map Int.ofNat)
     rw [List.length_map] at this
     rw [this]
     simp [ints, nats]] at harr
    rw [hl]
    exact owns_of_arr harr (Nat.le_refl _) rfl (by unfold maxLen; omega) (by simp [nats, hl]))
   clear hje hb harr hits
   go_wp2
   go_ret
   have hsl := uh HSL
   exact ⟨_, rfl, A.out.2.1, hsl⟩
end Go.Proofs.YtdgbmcbkbkbdoaaGreatDoor
