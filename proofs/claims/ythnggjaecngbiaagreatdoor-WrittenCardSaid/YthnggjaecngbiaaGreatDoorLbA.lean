import Derived.Test.YthnggjaecngbiaaGreatDoorEvF
namespace Go.Proofs.YthnggjaecngbiaaGreatDoor
open Go.RowKit

theorem bits_or7 {a b : Nat} (ha : a ≤ 7) (hb : b ≤ 7) : bits .or .i64 (a : Int) (b : Int) = ((a ||| b : Nat) : Int) := by
  have key : ∀ a : Fin 8, ∀ b : Fin 8, bits .or .i64 (a.val : Int) (b.val : Int) = ((a.val ||| b.val : Nat) : Int) := by decide
  exact key ⟨a, by omega⟩ ⟨b, by omega⟩
theorem bits_not7 {a b : Nat} (ha : a ≤ 7) (hb : b ≤ 7) : bits .andNot .i64 (a : Int) (b : Int) = ((a &&& (7 - b) : Nat) : Int) := by
  have key : ∀ a : Fin 8, ∀ b : Fin 8, bits .andNot .i64 (a.val : Int) (b.val : Int) = ((a.val &&& (7 - b.val) : Nat) : Int) := by decide
  exact key ⟨a, by omega⟩ ⟨b, by omega⟩
theorem labz_at {l : List Nat} {n i j : Nat} (h : i < j) (hj : j ≤ l.length) : (intsZ (l.map Int.ofNat) n)[i]? = some (.int .i64 (l.getD i 0 : Int)) := by
  have hi : i < l.length := by omega
  unfold intsZ ints
  rw [List.getElem?_append_left (by simpa using hi), getD_at _ _ hi]
  simp [hi]
theorem getD_le7 {l : List Nat} (h : ∀ x ∈ l, x ≤ 7) (i : Nat) : l.getD i 0 ≤ 7 := by
  rw [List.getD_eq_getElem?_getD]
  cases hq : l[i]? with
  | none => simp
  | some y => exact h y (List.mem_of_getElem? hq)

set_option maxRecDepth 100000 in
set_option maxHeartbeats 3200000 in
theorem labels_any (v : Value) (xs : List LItem) (w : World) (hit : ItemsV w v xs) (ok : OkPlan (xs.map LItem.it)) :
    Calls Tryz.prog 47 #[v] w fun e w' => ∃ lv, e = .returned lv ∧ Below w.heap.size w w' ∧ w'.ownsRow w.heap.size 3 1 lv (labsP (xs.map LItem.it)).length (nats (labsP (xs.map LItem.it))) := by
  obtain ⟨io, ic, rfl⟩ := hit.1.form
  have hlen : xs.length ≤ 12 := by have := ok.len; simpa using this
  have HI := hide hit
  have HK := hide ok
  clear hit ok
  have hmk := run_make_row' (P := Tryz.prog) 25 3 (.int .i64 0) 8 Tryz.underlying25 Tryz.info_int rfl .i64 .i64 xs.length (by omega) (by omega)
  go_enter Tryz.func47, Tryz.ntmps47
  go_wp2_with fail
  rw [made_ints]
  obtain ⟨its, hits⟩ : ∃ its, its = xs.map LItem.it := ⟨_, rfl⟩
  have HITS := hide hits
  go_loopg [14] xs.length (fun g i wr => ∃ j : Nat, j ≤ xs.length ∧ g = xs.length - j ∧ i = .int .i64 (j : Int) ∧ Below w.heap.size w wr ∧ wr.heap[w.heap.size]? = some (.cells (intsZ ((labsTo its j).map Int.ofNat) xs.length).toArray 3))
  case atStart => exact ⟨0, by omega, rfl, rfl, (Below.refl _ _).alloc (Nat.le_refl _) _, by simpa [labsTo] using alloc_last w (.cells (intsZ [] xs.length).toArray 3)⟩
  case round =>
    obtain ⟨j, hj, hg, rfl, hb, harr⟩ := hrel
    have A : Aside (gk = xs.length - j ∧ Below w.heap.size w wr ∧ wr.heap[w.heap.size]? = some (.cells (intsZ ((labsTo its j).map Int.ofNat) xs.length).toArray 3)) := ⟨hg, hb, harr⟩
    clear hg
    by_cases hlt : j < xs.length
    · rcases (unhide HI).1 with ⟨h0, _⟩ | ⟨g, cap', hv, hc, hm, hgl, hx⟩
      · omega
      simp only [Value.slice.injEq] at hv
      obtain ⟨rfl, _, rfl⟩ := hv
      have key : ∀ i, i < 7 → wr.cell? ⟨g, j * 7 + i, none⟩ = (itCells xs[j])[i]? := fun i hi => by
        rw [hb.cell (p := ⟨g, j * 7 + i, none⟩) hgl, hx _ (by omega)]
        exact flat_at itCells 7 (fun _ => rfl) xs j i hlt hi
      have k0 := key 0 (by omega)
      have k1 := key 1 (by omega)
      have k2 := key 2 (by omega)
      have k3 := key 3 (by omega)
      have k4 := key 4 (by omega)
      have k5 := key 5 (by omega)
      have k6 := key 6 (by omega)
      simp only [itCells, icells, List.getElem?_cons_zero, List.getElem?_cons_succ, Nat.add_zero] at k0 k1 k2 k3 k4 k5 k6
      have hji : j < (xs.map LItem.it).length := by simpa using hlt
      have hxe : (xs.map LItem.it)[j] = xs[j].it := by simp
      have hjc : (j : Int) < xs.length := by omega
      have hls := labsTo_succ hji
      have hah := (unhide HK).ahead j hji
      have hmk7 := (unhide HK).marks _ (List.getElem_mem hji)
      have hcl := (unhide HK).clen _ (List.getElem_mem hji)
      have hle7 := labsTo_le (fun it hi => ((unhide HK).marks it hi).1) j
      rw [hxe] at hls hah hmk7 hcl
      have hxi := (unhide HI).2 xs[j] (List.getElem_mem hlt)
      generalize xs[j] = x at *
      obtain ⟨co, cc, hcv⟩ := hxi.1.form
      obtain ⟨ro, rc, hrv⟩ := hxi.2.2.1.form
      obtain ⟨⟨nm, bT, mk, po, cs, dr, rl⟩, cv, rv0, zv⟩ := x
      simp only at k0 k1 k2 k3 k4 k5 k6 hcv hrv hls hah hmk7 hcl
      subst hcv hrv
      rw [← hits] at hls hah hle7
      have HLS := hide hls
      have HAH := hide hah
      have HLE := hide hle7
      have HXI := hide (hxi.below hb)
      have hsw := lt_of_block harr
      have hbi : Below wr.heap.size wr (wr.alloc (.cells #[.string nm, .bool bT, .int .i64 (mk : Int), .int .u8 po, .slice co cs.length cc, .int .i64 (dr : Int), .slice ro rl.length rc] 119)) := (Below.refl _ wr).alloc (Nat.le_refl _) _
      have HBI := hide hbi
      have HNI := hide (alloc_last wr (.cells #[.string nm, .bool bT, .int .i64 (mk : Int), .int .u8 po, .slice co cs.length cc, .int .i64 (dr : Int), .slice ro rl.length rc] 119))
      clear key hx hc hm hgl hb hxi hxe hls hah hle7 hbi harr
      go_wp2_with fail
      obtain ⟨w1, hw1⟩ : ∃ w1, w1 = wr.alloc (.cells #[.string nm, .bool bT, .int .i64 (mk : Int), .int .u8 po, .slice co cs.length cc, .int .i64 (dr : Int), .slice ro rl.length rc] 119) := ⟨_, rfl⟩
      rw [← hw1] at HBI HNI ⊢
      have hsz1 : wr.heap.size < w1.heap.size := lt_of_block (unhide HNI)
      have hsz2 : w.heap.size < w1.heap.size := by omega
      clear hw1 k0 k1 k2 k3 k4 k5 k6
      go_loopg [6, 24] cs.length (fun g lb i wx => ∃ m : Nat, m ≤ cs.length ∧ g = cs.length - m ∧ i = .int .i64 (m : Int) ∧ lb = .int .i64 (colLab its (labsTo its j) (cs.take m) mk : Int) ∧ Below w1.heap.size w1 wx)
      case atStart => exact ⟨0, by omega, rfl, rfl, by simp [colLab], Below.refl _ _⟩
      case round =>
        obtain ⟨m, hm, hg, rfl, rfl, hb⟩ := hrel
        have B : Aside (gk = cs.length - m ∧ Below w1.heap.size w1 wr) := ⟨hg, hb⟩
        clear hg
        by_cases hmt : m < cs.length
        · rcases (unhide HXI).1.below (unhide HBI) with ⟨h0, _⟩ | ⟨g2, cap2, hv2, hc2, hm2, hgl2, hx2⟩
          · simp only at h0; omega
          simp only [Value.slice.injEq] at hv2
          obtain ⟨rfl, _, rfl⟩ := hv2
          have k0 : wr.cell? ⟨g2, m, none⟩ = some (.string cs[m]) := by
            rw [hb.cell (p := ⟨g2, m, none⟩) hgl2, hx2 m (by simp; omega)]
            simp [hmt]
          obtain ⟨pn, hpn, hpl⟩ := unhide HAH cs[m] (List.getElem_mem hmt)
          have hst : colLab its (labsTo its j) (cs.take (m + 1)) mk = colLab its (labsTo its j) (cs.take m) mk ||| (labsTo its j).getD pn 0 := by
            rw [List.take_succ_eq_append_getElem hmt]
            unfold colLab
            rw [List.foldl_append, List.foldl_cons, List.foldl_nil, hpn, Int.toNat_natCast]
          generalize cs[m] = col at *
          have hmc : (m : Int) < cs.length := by omega
          have HST := hide hst
          have HPN := hide hpn
          have HIr := hide ((unhide HI).below (below_after A.out.2.1 (below_after (unhide HBI) hb)))
          clear hx2 hc2 hm2 hb hst hpn hits
          go_wp2_with fail
          refine (place_any _ xs col _ (unhide HIr) (by omega)).mono ?_
          rintro e w2 ⟨rfl, hb2⟩
          rw [← unhide HITS, unhide HPN]
          have hba := below_after (below_after (unhide HBI) B.out.2) hb2
          have harr2 := (hba.block _ (lt_of_block A.out.2.2)).trans A.out.2.2
          have l0 : w2.cell? ⟨w.heap.size, pn, none⟩ = some (.int .i64 ((labsTo its j).getD pn 0 : Int)) := by
            rw [(arr_cell harr2 _).1]
            exact labz_at hpl (by rw [labsTo_len]; exact Nat.le_refl _)
          have hv7 : (labsTo its j).getD pn 0 ≤ 7 := getD_le7 (unhide HLE) pn
          have hc7 : colLab its (labsTo its j) (cs.take m) mk ≤ 7 := colLab_le its _ (unhide HLE) _ _ hmk7.1
          generalize (labsTo its j).getD pn 0 = y at *
          generalize colLab its (labsTo its j) (cs.take m) mk = z at *
          have hpc : (pn : Int) < xs.length := by omega
          have HB2 := hide (below_after B.out.2 hb2)
          have hs2 := lt_of_block harr2
          clear hb2 hba harr2
          go_wp2_with fail
          rw [bits_or7 hc7 hv7]
          go_roundg (cs.length - (m + 1))
          case measure => have := B.out.1; omega
          case rel => exact ⟨m + 1, by omega, rfl, by go_num, by rw [unhide HST], unhide HB2⟩
        · have hme : m = cs.length := by omega
          have hmc : ¬ (m : Int) < cs.length := by omega
          have hc7 : colLab its (labsTo its j) (cs.take m) mk ≤ 7 := colLab_le its _ (unhide HLE) _ _ hmk7.1
          have HST : Hid (labsTo its (j + 1) = labsTo its j ++ [colLab its (labsTo its j) (cs.take m) mk &&& (7 - dr)]) := hide (by
            rw [unhide HLS, hme, List.take_length]; rfl)
          generalize colLab its (labsTo its j) (cs.take m) mk = z at *
          have hba := below_after (unhide HBI) hb
          have harr2 := (hba.block _ (lt_of_block A.out.2.2)).trans A.out.2.2
          have hNi2 := (hb.block _ (lt_of_block (unhide HNI))).trans (unhide HNI)
          obtain ⟨⟨c0, c1, c2, c3, c4, c5, c6⟩, f0, f1, f2, f3, f4, f5, f6⟩ := cells7 hNi2
          have hs3 := lt_of_block hNi2
          have e0 : wr.cell? ⟨w.heap.size, j, none⟩ = some (.int .i64 0) := by
            rw [(arr_cell harr2 _).1]
            unfold intsZ
            rw [List.getElem?_append_right (by simp [ints, labsTo_len]), List.getElem?_replicate, if_pos (by simp [ints, labsTo_len]; omega)]
          have e1 := (arr_cell harr2 j).2
          have hs2 := lt_of_block harr2
          have HSET : Hid ((wr.setCell ⟨w.heap.size, j, none⟩ (.int .i64 ((z &&& (7 - dr) : Nat) : Int))).heap[w.heap.size]? = some (.cells (intsZ ((labsTo its (j + 1)).map Int.ofNat) xs.length).toArray 3)) := hide (by
            rw [heap_set_same harr2]
            have := intsZ_set (l := (labsTo its j).map Int.ofNat) (n := xs.length) (by simp [labsTo_len]; omega) ((z &&& (7 - dr) : Nat) : Int)
            rw [List.length_map, labsTo_len] at this
            rw [this, unhide HST, List.map_append]
            rfl)
          have HB2 := hide (below_after A.out.2.1 hba)
          clear hme hb hba harr2 hNi2 c0 c1 c2 c3 c4 c6 f0 f1 f2 f3 f4 f6 hits
          go_wp2_with fail
          rw [bits_not7 hc7 hmk7.2]
          go_roundg (xs.length - (j + 1))
          case measure => have := A.out.1; omega
          case rel => exact ⟨j + 1, by omega, rfl, by go_num, (unhide HB2).setCell (p := ⟨w.heap.size, j, none⟩) (Nat.le_refl _) _, unhide HSET⟩
    · have hje : j = xs.length := by omega
      have hjc : ¬ (j : Int) < xs.length := by omega
      have HSL : Hid (wr.ownsRow w.heap.size 3 1 (.slice (some ⟨w.heap.size, 0, none⟩) xs.length xs.length) (labsP (xs.map LItem.it)).length (nats (labsP (xs.map LItem.it)))) := hide (by
        have hl : (labsP (xs.map LItem.it)).length = xs.length := by unfold labsP; rw [labsTo_len]; simp
        have h1 : (labsTo its j).map Int.ofNat = (labsP (xs.map LItem.it)).map Int.ofNat := by rw [hits, hje]; unfold labsP; simp
        rw [h1] at harr
        rw [show intsZ ((labsP (xs.map LItem.it)).map Int.ofNat) xs.length = nats (labsP (xs.map LItem.it)) by
          rw [← hl]
          have := intsZ_full ((labsP (xs.map LItem.it)).map Int.ofNat)
          rw [List.length_map] at this
          rw [this]
          simp [ints, nats]] at harr
        rw [hl]
        exact owns_of_arr harr (Nat.le_refl _) rfl (by unfold maxLen; omega) (by simp [nats, hl]))
      clear hje hb harr hits
      go_wp2
      go_ret
      have hsl := unhide HSL
      exact ⟨_, rfl, A.out.2.1, hsl⟩
end Go.Proofs.YthnggjaecngbiaaGreatDoor

namespace Go.Proofs.YthnggjaecngbiaaGreatDoor
open Go.RowKit

set_option maxRecDepth 100000 in
set_option maxHeartbeats 3200000 in
theorem evcols_any (x : LItem) (iv0 : Value) (xs : List LItem) (rvv : Value) (rs : List (PVal × Value)) (w : World) (hx : ItemV w x) (hit : ItemsV w iv0 xs) (hrs : SlAt w 3 rvv rs.length (rs.flatMap rc3)) (hxl : xs.length ≤ 12) (_hrl : rs.length ≤ 12) (hc3 : x.it.cols.length ≤ 3) (hah : ∀ c ∈ x.it.cols, ∃ i : Nat, placeP (xs.map LItem.it) c = (i : Int) ∧ i < rs.length) :
    Calls Tryz.prog 99 #[iv x.it x.cv x.rv, iv0, rvv] w fun e w' => ∃ v, e = .returned v ∧ Below w.heap.size w w' ∧ SlAt w' 2 v x.it.cols.length ((x.it.cols.map fun c => (rs.getD (placeP (xs.map LItem.it) c).toNat rZero).1).flatMap vcells) := by
  obtain ⟨it, cv, rv0, zv⟩ := x
  obtain ⟨co, cc, hcv⟩ := hx.1.form
  obtain ⟨ro, rc, hrv⟩ := hx.2.2.1.form
  obtain ⟨io, ic, hiv⟩ := hit.1.form
  obtain ⟨so, sc, hsv⟩ := hrs.form
  simp only at hcv hrv
  subst hcv hrv hiv hsv
  simp only at hc3 hah ⊢
  obtain ⟨vf, hvf⟩ : ∃ vf : ByteArray → PVal, vf = fun c => (rs.getD (placeP (xs.map LItem.it) c).toNat rZero).1 := ⟨_, rfl⟩
  rw [← hvf]
  have HVF := hide hvf
  clear hvf
  obtain ⟨w0, hw0⟩ : ∃ w0, w0 = w.alloc (.cells (icells it (.slice co it.cols.length cc) (.slice ro it.rules.length rc)) 119) := ⟨_, rfl⟩
  have hb0 : Below w.heap.size w w0 := by rw [hw0]; exact (Below.refl _ w).alloc (Nat.le_refl _) _
  have hN0 : w0.heap[w.heap.size]? = some (.cells (icells it (.slice co it.cols.length cc) (.slice ro it.rules.length rc)) 119) := by
    rw [hw0]; exact alloc_last w _
  have HX := hide (hx.below hb0)
  have HI := hide (hit.below hb0)
  have HR := hide (hrs.below hb0)
  have HA := hide hah
  have HB0 := hide hb0
  have HN0 := hide hN0
  obtain ⟨⟨c0, c1, c2, c3, c4, c5, c6⟩, f0, f1, f2, f3, f4, f5, f6⟩ := cells7 hN0
  have hs1 : w.heap.size < w0.heap.size := lt_of_block hN0
  have hmk := make_values it.cols.length (by omega)
  have HW0 := hide hw0
  clear hx hit hrs hah hb0 hN0
  simp only [iv, icells] at hw0 ⊢
  clear c0 c1 c2 c3 c5 c6 f0 f1 f2 f3 f5 f6
  go_enter Tryz.func99, Tryz.ntmps99
  go_wp2_with fail
  rw [← hw0]
  have hsz0 : w0.heap.size = w.heap.size + 1 := by rw [hw0]; simp
  clear hw0 c4 f4 hmk
  go_loopg [17] it.cols.length (fun g i wr => ∃ j : Nat, j ≤ it.cols.length ∧ g = it.cols.length - j ∧ i = .int .i64 (j : Int) ∧ Below w0.heap.size w0 wr ∧ wr.heap[w.heap.size + 1]? = some (.cells (flatZ vcells PVal.zero ((it.cols.take j).map vf) it.cols.length).toArray 51))
  case atStart => exact ⟨0, by omega, rfl, rfl, (Below.refl _ _).alloc (Nat.le_refl _) _, by rw [← hsz0]; simpa using alloc_last w0 (.cells (flatZ vcells PVal.zero [] it.cols.length).toArray 51)⟩
  case round =>
    obtain ⟨j, hj, hg, rfl, hb, harr⟩ := hrel
    have A : Aside (gk = it.cols.length - j ∧ Below w0.heap.size w0 wr ∧ wr.heap[w.heap.size + 1]? = some (.cells (flatZ vcells PVal.zero ((it.cols.take j).map vf) it.cols.length).toArray 51)) := ⟨hg, hb, harr⟩
    clear hg
    have hnl : ((it.cols.take j).map vf).length = j := by simp; omega
    by_cases hlt : j < it.cols.length
    · rcases (unhide HX).1 with ⟨h0, _⟩ | ⟨g2, cap2, hv2, hc2, hm2, hgl2, hx2⟩
      · simp only at h0; omega
      simp only [Value.slice.injEq] at hv2
      obtain ⟨rfl, _, rfl⟩ := hv2
      have k0 : wr.cell? ⟨g2, j, none⟩ = some (.string it.cols[j]) := by
        rw [hb.cell (p := ⟨g2, j, none⟩) hgl2, hx2 j (by simp; omega)]
        simp [hlt]
      obtain ⟨pn, hpn, hpl⟩ := unhide HA it.cols[j] (List.getElem_mem hlt)
      have hns : (it.cols.take (j + 1)).map vf = (it.cols.take j).map vf ++ [vf it.cols[j]] := by
        rw [List.take_succ_eq_append_getElem hlt, List.map_append]; rfl
      have hvc : vf it.cols[j] = rs[pn].1 := by
        rw [unhide HVF]; simp only; rw [hpn, Int.toNat_natCast, getD_at _ _ hpl]
      rw [hvc] at hns
      generalize it.cols[j] = col at *
      have hjc : (j : Int) < it.cols.length := by omega
      have HNS := hide hns
      have HPN := hide hpn
      have hsw : w.heap.size + 1 < wr.heap.size := lt_of_block harr
      have HIr := hide ((unhide HI).below hb)
      have HRr := hide ((unhide HR).below hb)
      clear hx2 hc2 hm2 hb hns hpn hvc
      go_wp2_with fail
      refine (place_any _ xs col _ (unhide HIr) (by omega)).mono ?_
      rintro e w2 ⟨rfl, hb2⟩
      rw [unhide HPN]
      rcases (unhide HRr).below hb2 with ⟨h0, _⟩ | ⟨g3, cap3, hv3, hc3', hm3, hgl3, hx3⟩
      · omega
      simp only [Value.slice.injEq] at hv3
      obtain ⟨rfl, _, rfl⟩ := hv3
      have l0 : w2.cell? ⟨g3, pn * 3, none⟩ = some (.int .i64 rs[pn].1.kind) := by
        rw [hx3 _ (by omega)]
        have := flat_at rc3 3 (fun _ => rfl) rs pn 0 hpl (by omega)
        rw [Nat.add_zero] at this
        rw [this]; rfl
      have l1 : w2.cell? ⟨g3, pn * 3 + 1, none⟩ = some (.int .i64 rs[pn].1.n) := by
        rw [hx3 _ (by omega)]
        have := flat_at rc3 3 (fun _ => rfl) rs pn 1 hpl (by omega)
        rw [this]; rfl
      have l2 : w2.cell? ⟨g3, pn * 3 + 2, none⟩ = some rs[pn].2 := by
        rw [hx3 _ (by omega)]
        have := flat_at rc3 3 (fun _ => rfl) rs pn 2 hpl (by omega)
        rw [this]; rfl
      generalize rs[pn] = y at *
      have harr2 := (hb2.block _ hsw).trans harr
      have e0 : w2.cell? ⟨w.heap.size + 1, j * 2, none⟩ = some (.int .i64 0) := by
        rw [(arr_cell harr2 _).1]
        have := flatZ_zero vcells PVal.zero (l := (it.cols.take j).map vf) (n := it.cols.length) (m := 2) (by omega) (fun _ => rfl) 0 (by omega)
        rw [hnl, Nat.add_zero] at this
        rw [this]; rfl
      have e1 : w2.cell? ⟨w.heap.size + 1, j * 2 + 1, none⟩ = some (.int .i64 0) := by
        rw [(arr_cell harr2 _).1]
        have := flatZ_zero vcells PVal.zero (l := (it.cols.take j).map vf) (n := it.cols.length) (m := 2) (by omega) (fun _ => rfl) 1 (by omega)
        rw [hnl] at this
        rw [this]; rfl
      have q0 := (arr_cell harr2 (j * 2)).2
      have q1 := (arr_cell harr2 (j * 2 + 1)).2
      have hsw2 : w.heap.size + 1 < w2.heap.size := lt_of_block harr2
      have hpc : (pn : Int) < rs.length := by omega
      have HSET : Hid (((w2.setCell ⟨w.heap.size + 1, j * 2, none⟩ (.int .i64 y.1.kind)).setCell ⟨w.heap.size + 1, j * 2 + 1, none⟩ (.int .i64 y.1.n)).heap[w.heap.size + 1]? = some (.cells (flatZ vcells PVal.zero ((it.cols.take j).map vf ++ [y.1]) it.cols.length).toArray 51)) := hide (by
        rw [heap_set_same (heap_set_same harr2 _)]
        have := flatZ_set2 vcells PVal.zero (l := (it.cols.take j).map vf) (n := it.cols.length) (by omega) y.1 (fun _ => rfl) rfl (a := .int .i64 y.1.kind) (b := .int .i64 y.1.n) rfl
        rw [hnl] at this
        rw [this])
      have HB2 := hide (below_after A.out.2.1 hb2)
      clear hx3 hc3' hm3 hb2 harr2 harr
      go_wp2_with fail
      go_roundg (it.cols.length - (j + 1))
      case measure => have := A.out.1; omega
      case rel =>
        refine ⟨j + 1, by omega, rfl, by go_num, ((unhide HB2).setCell (p := ⟨w.heap.size + 1, j * 2, none⟩) (by simp only; omega) _).setCell (p := ⟨w.heap.size + 1, j * 2 + 1, none⟩) (by simp only; omega) _, ?_⟩
        rw [unhide HNS]
        exact unhide HSET
    · have hje : j = it.cols.length := by omega
      have hjc : ¬ (j : Int) < it.cols.length := by omega
      have HSL : Hid (SlAt wr 2 (.slice (some ⟨w.heap.size + 1, 0, none⟩) it.cols.length it.cols.length) it.cols.length ((it.cols.map vf).flatMap vcells)) := hide (by
        rw [hje, List.take_length, show flatZ vcells PVal.zero (it.cols.map vf) it.cols.length = (it.cols.map vf).flatMap vcells by
          have := flatZ_full vcells PVal.zero (it.cols.map vf)
          rw [List.length_map] at this
          exact this] at harr
        exact sl_of_arr harr (Nat.le_refl _) (by unfold maxLen; omega))
      clear hje hb harr hnl
      go_wp2
      go_ret
      have hsl := unhide HSL
      exact ⟨_, rfl, below_after (unhide HB0) A.out.2.1, hsl⟩
end Go.Proofs.YthnggjaecngbiaaGreatDoor

