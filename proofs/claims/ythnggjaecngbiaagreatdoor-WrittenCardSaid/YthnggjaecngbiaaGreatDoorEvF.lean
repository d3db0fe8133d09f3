import Derived.Test.YthnggjaecngbiaaGreatDoorEvD
import Derived.Deep.OwnRows
namespace Go.Proofs.YthnggjaecngbiaaGreatDoor
open Go.RowKit

/-- Numbers that are made one by one, zeros behind. -/
def intsZ (l : List Int) (n : Nat) : List Value := ints l ++ List.replicate (n - l.length) (.int .i64 0)
theorem made_ints (n : Nat) : madeCells #[Value.int .i64 0] n = (intsZ [] n).toArray := by
  unfold madeCells intsZ ints
  apply Array.ext
  · simp
  · intro i h1 h2
    simp [Nat.mod_one]
theorem intsZ_len {l : List Int} {n : Nat} (h : l.length ≤ n) : (intsZ l n).length = n := by simp [intsZ, ints]; omega
theorem intsZ_set {l : List Int} {n : Nat} (h : l.length < n) (x : Int) : (intsZ l n).toArray.setIfInBounds l.length (.int .i64 x) = (intsZ (l ++ [x]) n).toArray := by
  apply Array.toList_inj.1
  simp only [Array.toList_setIfInBounds]
  unfold intsZ ints
  rw [show n - l.length = (n - (l ++ [x]).length) + 1 by simp; omega, List.replicate_succ, List.set_append_right _ _ (by simp)]
  simp
theorem intsZ_full (l : List Int) : intsZ l l.length = ints l := by simp [intsZ]
theorem arr_cell {w : World} {g : Nat} {l : List Value} {T : TypeId} (h : w.heap[g]? = some (.cells l.toArray T)) (j : Nat) : w.cell? ⟨g, j, none⟩ = l[j]? ∧ w.frozen? ⟨g, j, none⟩ = false := by
  simp [World.cell?, World.frozen?, h]
theorem sl_of_arr {w : World} {g n cap : Nat} {size : Nat} {l : List Value} {T : TypeId} (h : w.heap[g]? = some (.cells l.toArray T)) (hc : n ≤ cap) (hm : cap ≤ maxLen) : SlAt w size (.slice (some ⟨g, 0, none⟩) n cap) n l :=
  Or.inr ⟨g, cap, rfl, hc, hm, lt_of_block h, fun j _ => (arr_cell h j).1⟩

theorem owns_of_arr {w : World} {g n cap size base : Nat} {l : List Value} {T : TypeId} (h : w.heap[g]? = some (.cells l.toArray T)) (hg : base ≤ g) (hn : n = cap) (hm : cap ≤ maxLen) (hl : l.length = n * size) : w.ownsRow base T size (.slice (some ⟨g, 0, none⟩) n cap) n l := by
  subst hn
  refine ⟨hl, Or.inr ⟨g, n, l.toArray, rfl, hg, h, Nat.le_refl _, hm, by simpa using hl, ?_⟩⟩
  rw [← hl]
  simp
theorem set3_keep {w : World} {N : Nat} {c : Array Value} {T e : TypeId} {base size n : Nat} {v : Value} {xs : List Value} (h : w.heap[N]? = some (.cells c T)) (hne : e ≠ T) (ho : w.ownsRow base e size v n xs) (x y z : Value) : (((w.setCell ⟨N, 0, none⟩ x).setCell ⟨N, 1, none⟩ y).setCell ⟨N, 2, none⟩ z).ownsRow base e size v n xs :=
  owns_keep ho (fun gg _ _ hg => by
    have hn : gg ≠ N := fun e' => by subst e'; rw [h] at hg; simp at hg; exact hne hg.2.symm
    rw [Below.heap_setCell _ _ _ _ hn, Below.heap_setCell _ _ _ _ hn, Below.heap_setCell _ _ _ _ hn])

set_option maxRecDepth 100000 in
set_option maxHeartbeats 3200000 in
theorem evtable_any (x : LItem) (vl : Value) (vs : List PVal) (w : World) (hx : ItemV w x) (hw : WfI x.it) (hwd : ∀ r ∈ x.it.rules, r.tests.length = x.it.cols.length) (hnb : ∀ r ∈ x.it.rules, -1000000 ≤ r.num ∧ r.num ≤ 1000000) (hvs : SlAt w 2 vl vs.length (vs.flatMap vcells)) (hvl : vs.length = x.it.cols.length) (hr8 : x.it.rules.length ≤ 8) (hc3 : x.it.cols.length ≤ 3) :
    Calls Tryz.prog 98 #[iv x.it x.cv x.rv, vl] w fun e w' => ∃ mv, e = .returned (.agg #[.int .i64 (tableP x.it vs).1.kind, .int .i64 (tableP x.it vs).1.n, mv]) ∧ Below w.heap.size w w' ∧ w'.ownsRow w.heap.size 3 1 mv (tableP x.it vs).2.length (nats (tableP x.it vs).2) := by
  obtain ⟨it, cv, rv0, zv⟩ := x
  obtain ⟨co, cc, hcv⟩ := hx.1.form
  obtain ⟨ro, rc, hrv⟩ := hx.2.2.1.form
  obtain ⟨vo, vc, hvv⟩ := hvs.form
  simp only at hcv hrv
  subst hcv hrv hvv
  simp only at hw hwd hnb hvl ⊢
  obtain ⟨w0, hw0⟩ : ∃ w0, w0 = ((w.alloc (.cells (icells it (.slice co it.cols.length cc) (.slice ro it.rules.length rc)) 119)).alloc (.cells #[.int .i64 0, .int .i64 0, .slice none 0 0] 128)) := ⟨_, rfl⟩
  have hb0 : Below w.heap.size w w0 := by rw [hw0]; exact ((Below.refl _ w).alloc (Nat.le_refl _) _).alloc (by simp) _
  have hN0 : w0.heap[w.heap.size]? = some (.cells (icells it (.slice co it.cols.length cc) (.slice ro it.rules.length rc)) 119) := by
    rw [hw0, Below.heap_alloc _ _ _ (by simp)]; exact alloc_last w _
  have hN1 : w0.heap[w.heap.size + 1]? = some (.cells #[.int .i64 0, .int .i64 0, .slice none 0 0] 128) := by
    rw [hw0]
    have := alloc_last (w.alloc (.cells (icells it (.slice co it.cols.length cc) (.slice ro it.rules.length rc)) 119)) (.cells #[.int .i64 0, .int .i64 0, .slice none 0 0] 128)
    simpa using this
  have HX := hide (hx.below hb0)
  have HVS := hide (hvs.below hb0)
  have HVL := hide hvl
  have HWd := hide hwd
  have HNB := hide hnb
  have HB0 := hide hb0
  have HN0 := hide hN0
  have HN1 := hide hN1
  have HW0 := hide hw0
  simp only at hr8 hc3
  have hvl1 : vs.length ≤ 3 := by omega
  have HWF := hide hw
  clear hx hvs hvl hwd hnb hb0 hN0 hN1 hw
  simp only [iv, icells] at hw0 ⊢
  have hmap : (zv.zip it.rules).map Prod.snd = it.rules := by
    have := (unhide HX).2.1
    simp only at this
    exact List.map_snd_zip (by omega)
  have HMAP := hide hmap
  clear hmap
  go_enter Tryz.func98, Tryz.ntmps98
  go_wp2_with fail
  rw [← hw0]
  clear hw0
  have hzl : (zv.zip it.rules).length = it.rules.length := by have := (unhide HX).2.1; simp at this ⊢; omega
  refine (met_any _ _ (zv.zip it.rules) vs _ (by rw [hzl]; exact (unhide HX).2.2.1) (fun y hy => ⟨(unhide HX).2.2.2 y hy, ?a1, ?a2⟩) (by omega) (unhide HVS) (by omega)).mono ?_
  case a1 =>
    have h2 : y.2 ∈ it.rules := (List.of_mem_zip hy).2
    rw [unhide HWd y.2 h2, unhide HVL]
  case a2 => exact ((unhide HWF).rules y.2 (List.of_mem_zip hy).2).tests
  rintro e w1 ⟨mv, rfl, hb1, hown⟩
  rw [unhide HMAP] at hown
  obtain ⟨l, hl⟩ : ∃ l, metP it.rules vs = l := ⟨_, rfl⟩
  have hll : ∀ i ∈ l, i < it.rules.length := by rw [← hl]; exact metTo_lt (Nat.le_refl _)
  have hln : l.length ≤ 8 := by
    rw [← hl]
    have := metTo_len it.rules vs it.rules.length
    unfold metP; omega
  rw [hl] at hown
  have HL := hide hl
  have HLL := hide hll
  clear hl hll hzl
  obtain ⟨mo, mc, hmv⟩ := (SlAt.of_owns hown).form
  subst hmv
  have HM := hide (SlAt.of_owns hown)
  have HO := hide (owns_base hown (unhide HB0).size)
  have HB1 := hide (below_after (unhide HB0) hb1)
  have HX1 := hide ((unhide HX).below hb1)
  have HN01 := hide ((hb1.block _ (lt_of_block (unhide HN0))).trans (unhide HN0))
  have HN11 := hide ((hb1.block _ (lt_of_block (unhide HN1))).trans (unhide HN1))
  obtain ⟨⟨c0, c1, c2, c3, c4, c5, c6⟩, f0, f1, f2, f3, f4, f5, f6⟩ := cells7 (unhide HN01)
  have hs1 : w.heap.size < w1.heap.size := lt_of_block (unhide HN01)
  have hs2 : w.heap.size + 1 < w1.heap.size := lt_of_block (unhide HN11)
  clear hb1 hown HX HN0 HN1 HVS HB0
  have hmk := run_make_row' (P := Tryz.prog) 25 3 (.int .i64 0) 8 Tryz.underlying25 Tryz.info_int rfl .i64 .i64 l.length (by omega) (by omega)
  go_wp2_with fail
  rw [made_ints]
  go_loopg [18] l.length (fun g i wr => ∃ j : Nat, j ≤ l.length ∧ g = l.length - j ∧ i = .int .i64 (j : Int) ∧ Below w1.heap.size w1 wr ∧ wr.heap[w1.heap.size]? = some (.cells (intsZ (numsOf it.rules (l.take j)) l.length).toArray 3))
  case atStart => exact ⟨0, by omega, rfl, rfl, (Below.refl _ _).alloc (Nat.le_refl _) _, by simpa [numsOf] using alloc_last w1 (.cells (intsZ [] l.length).toArray 3)⟩
  case round =>
    obtain ⟨j, hj, hg, rfl, hb, harr⟩ := hrel
    have A : Aside (gk = l.length - j ∧ Below w1.heap.size w1 wr ∧ wr.heap[w1.heap.size]? = some (.cells (intsZ (numsOf it.rules (l.take j)) l.length).toArray 3)) := ⟨hg, hb, harr⟩
    have hnl : (numsOf it.rules (l.take j)).length = j := by simp [numsOf]; omega
    have c4r := (hb.cell (p := ⟨w.heap.size, 6, none⟩) hs1).trans c6
    have hs1r : w.heap.size < wr.heap.size := Nat.lt_of_lt_of_le hs1 hb.size
    clear hg
    by_cases hlt : j < l.length
    · rcases (unhide HM) with ⟨h0, _⟩ | ⟨g2, cap2, hv2, hc2, hm2, hgl2, hx2⟩
      · omega
      simp only [Value.slice.injEq] at hv2
      obtain ⟨rfl, _, rfl⟩ := hv2
      have k0 : wr.cell? ⟨g2, j, none⟩ = some (.int .i64 (l[j] : Int)) := by
        rw [hb.cell (p := ⟨g2, j, none⟩) hgl2, hx2 j (by omega)]
        simp [nats, hlt]
      have hpl := unhide HLL l[j] (List.getElem_mem hlt)
      have hns : numsOf it.rules (l.take (j + 1)) = numsOf it.rules (l.take j) ++ [numOf it.rules l[j]] := by
        rw [List.take_succ_eq_append_getElem hlt]; unfold numsOf; rw [List.map_append]; rfl
      generalize l[j] = p at *
      have hzp : p < (zv.zip it.rules).length := by have := (unhide HX1).2.1; simp at this ⊢; omega
      rcases (unhide HX1).2.2.1 with ⟨h0, _⟩ | ⟨g3, cap3, hv3, hc3, hm3, hgl3, hx3⟩
      · simp only at h0; omega
      simp only [Value.slice.injEq] at hv3
      obtain ⟨rfl, _, rfl⟩ := hv3
      have k1 : wr.cell? ⟨g3, p * 2 + 1, none⟩ = some (.int .i64 (numOf it.rules p)) := by
        rw [hb.cell (p := ⟨g3, p * 2 + 1, none⟩) hgl3, hx3 _ (by simp only; omega)]
        have := flat_at zcells 2 (fun _ => rfl) (zv.zip it.rules) p 1 hzp (by omega)
        simp only [rcells_z]
        rw [this]
        simp [zcells, numOf, hpl]
      have k1' : wr.cell? ⟨g3, p * 2, none⟩ = some (zv.zip it.rules)[p].1 := by
        rw [hb.cell (p := ⟨g3, p * 2, none⟩) hgl3, hx3 _ (by simp only; omega)]
        have := flat_at zcells 2 (fun _ => rfl) (zv.zip it.rules) p 0 hzp (by omega)
        simp only [rcells_z]
        rw [Nat.add_zero] at this
        rw [this]
        simp [zcells]
      have hpc : (p : Int) < it.rules.length := by omega
      have hjc : (j : Int) < l.length := by omega
      generalize numOf it.rules p = x at *
      have HNS := hide hns
      have e0 : wr.cell? ⟨w1.heap.size, j, none⟩ = some (.int .i64 0) := by
        rw [(arr_cell harr j).1]
        unfold intsZ
        rw [List.getElem?_append_right (by simp [ints, hnl]), List.getElem?_replicate, if_pos (by simp [ints, hnl]; omega)]
      have e1 := (arr_cell harr j).2
      have hsw : w1.heap.size < wr.heap.size := lt_of_block harr
      have HSET : Hid ((wr.setCell ⟨w1.heap.size, j, none⟩ (.int .i64 x)).heap[w1.heap.size]? = some (.cells (intsZ (numsOf it.rules (l.take j) ++ [x]) l.length).toArray 3)) := hide (by
        rw [heap_set_same harr]
        have := intsZ_set (l := numsOf it.rules (l.take j)) (n := l.length) (by omega) x
        rw [hnl] at this
        rw [this])
      clear hx2 hx3 hc2 hm2 hc3 hm3 hb harr hns hpl hnl
      go_wp2_with fail
      go_roundg (l.length - (j + 1))
      case measure => have := A.out.1; omega
      case rel => exact ⟨j + 1, by omega, rfl, by go_num, A.out.2.1.setCell (p := ⟨w1.heap.size, j, none⟩) (Nat.le_refl _) _, by rw [unhide HNS]; exact unhide HSET⟩
    · have hje : j = l.length := by omega
      have hjc : ¬ (j : Int) < l.length := by omega
      have hnum : (numsOf it.rules l).length = l.length := by simp [numsOf]
      have hsl : SlAt wr 1 (.slice (some ⟨w1.heap.size, 0, none⟩) l.length l.length) (numsOf it.rules l).length (ints (numsOf it.rules l)) := by
        rw [hje, List.take_length] at harr
        rw [show intsZ (numsOf it.rules l) l.length = ints (numsOf it.rules l) by rw [← hnum]; exact intsZ_full _] at harr
        rw [hnum]
        exact sl_of_arr harr (Nat.le_refl _) (by unfold maxLen; omega)
      have HSL := hide hsl
      have hnb : ∀ x ∈ numsOf it.rules l, -1000000 ≤ x ∧ x ≤ 1000000 := fun x hx => by
        unfold numsOf at hx
        rw [List.mem_map] at hx
        obtain ⟨i, hi, rfl⟩ := hx
        have := unhide HLL i hi
        simp only [numOf, List.getElem?_eq_getElem this]
        exact unhide HNB _ (List.getElem_mem this)
      have HNBS := hide hnb
      have c3r := (hb.cell (p := ⟨w.heap.size, 3, none⟩) hs1).trans c3
      have HN1r := hide ((hb.block _ hs2).trans (unhide HN11))
      have HBr := hide (below_after (unhide HB1) hb)
      have HMr := hide (owns_below (unhide HO) hb)
      have hnum8 : (numsOf it.rules l).length ≤ 1000 := by omega
      have hs2r : w.heap.size + 1 < wr.heap.size := Nat.lt_of_lt_of_le hs2 hb.size
      clear hje hb harr hsl hnb hnl c4r
      go_wp2_with fail
      refine (decide_any _ _ (numsOf it.rules l) _ (unhide HSL) hnum8 (unhide HNBS)).mono ?_
      rintro e w2 ⟨rfl, hb2⟩
      have hN2 := (hb2.block _ hs2r).trans (unhide HN1r)
      obtain ⟨⟨b0, b1, b2⟩, g0, g1, g2⟩ := box3 hN2
      have HN2 := hide hN2
      have HB2 := hide (below_after (unhide HBr) hb2)
      have HM2 := hide (owns_below (unhide HMr) hb2)
      have hs2w : w.heap.size + 1 < w2.heap.size := lt_of_block hN2
      clear hN2 hb2
      simp only [vv]
      go_wp2_with fail
      have hD : tableP it vs = (decideP it.policy (numsOf it.rules l), l) := by unfold tableP; rw [unhide HL]
      rw [hD]
      generalize decideP it.policy (numsOf it.rules l) = d at *
      obtain ⟨⟨d0, d1, d2⟩, _⟩ := box3 (box3_set (x := .int .i64 d.kind) (y := .int .i64 d.n) (z := .slice mo l.length mc) (unhide HN2))
      refine bodyPost_ret (v := .agg #[.int .i64 d.kind, .int .i64 d.n, .slice mo l.length mc]) (by simp [results, Tryz.results98, go_sem, d0, d1, d2]) rfl ⟨_, rfl, below_set3 _ _ _ (unhide HB2) (by omega), ?_⟩
      exact set3_keep (unhide HN2) (by decide) (unhide HM2) _ _ _
end Go.Proofs.YthnggjaecngbiaaGreatDoor

namespace Go.Proofs.YthnggjaecngbiaaGreatDoor
open Go.RowKit

theorem Tryz.info_value : (Tryz.prog.info? 51).map (fun i => (i.zero, i.size, i.bytes)) = some (some (.agg #[.int .i64 0, .int .i64 0]), 2, 16) := by kernel_rfl
theorem Tryz.info_result : (Tryz.prog.info? 128).map (fun i => (i.zero, i.size, i.bytes)) = some (some (.agg #[.int .i64 0, .int .i64 0, .slice none 0 0]), 3, 40) := by kernel_rfl

/-- Things of m cells that are made one by one, zeros behind. -/
def flatZ {α : Type} (f : α → List Value) (z : α) (l : List α) (n : Nat) : List Value := (l ++ List.replicate (n - l.length) z).flatMap f
theorem flat_len {α : Type} (f : α → List Value) (m : Nat) (hm : ∀ x, (f x).length = m) : ∀ l : List α, (l.flatMap f).length = l.length * m
  | [] => by simp
  | x :: l => by rw [List.flatMap_cons, List.length_append, hm, flat_len f m hm l, List.length_cons, Nat.succ_mul, Nat.add_comm]
theorem flatZ_split {α : Type} (f : α → List Value) (z : α) {l : List α} {n : Nat} (h : l.length < n) : ∃ r, flatZ f z l n = l.flatMap f ++ (f z ++ r) ∧ ∀ x, flatZ f z (l ++ [x]) n = l.flatMap f ++ (f x ++ r) := by
  refine ⟨(List.replicate (n - (l.length + 1)) z).flatMap f, ?_, fun x => ?_⟩
  · unfold flatZ
    rw [show n - l.length = (n - (l.length + 1)) + 1 by omega, List.replicate_succ]
    simp
  · unfold flatZ
    simp
theorem flatZ_full {α : Type} (f : α → List Value) (z : α) (l : List α) : flatZ f z l l.length = l.flatMap f := by simp [flatZ]
theorem flatZ_set2 {α : Type} (f : α → List Value) (z : α) {l : List α} {n : Nat} (h : l.length < n) (x : α) {z0 z1 a b : Value} (hm : ∀ x, (f x).length = 2) (hz : f z = [z0, z1]) (hx : f x = [a, b]) :
    ((flatZ f z l n).toArray.setIfInBounds (l.length * 2) a).setIfInBounds (l.length * 2 + 1) b = (flatZ f z (l ++ [x]) n).toArray := by
  obtain ⟨r, h1, h2⟩ := flatZ_split f z h
  have hl := flat_len f 2 hm l
  rw [h1, h2 x, hz, hx]
  apply Array.toList_inj.1
  simp only [Array.toList_setIfInBounds, List.cons_append, List.nil_append]
  rw [List.set_append_right _ _ (by omega), List.set_append_right _ _ (by omega), hl]
  simp
theorem flatZ_set3 {α : Type} (f : α → List Value) (z : α) {l : List α} {n : Nat} (h : l.length < n) (x : α) {z0 z1 z2 a b c : Value} (hm : ∀ x, (f x).length = 3) (hz : f z = [z0, z1, z2]) (hx : f x = [a, b, c]) :
    (((flatZ f z l n).toArray.setIfInBounds (l.length * 3) a).setIfInBounds (l.length * 3 + 1) b).setIfInBounds (l.length * 3 + 2) c = (flatZ f z (l ++ [x]) n).toArray := by
  obtain ⟨r, h1, h2⟩ := flatZ_split f z h
  have hl := flat_len f 3 hm l
  rw [h1, h2 x, hz, hx]
  apply Array.toList_inj.1
  simp only [Array.toList_setIfInBounds, List.cons_append, List.nil_append]
  rw [List.set_append_right _ _ (by omega), List.set_append_right _ _ (by omega), List.set_append_right _ _ (by omega), hl]
  simp
theorem flatZ_zero {α : Type} (f : α → List Value) (z : α) {l : List α} {n m : Nat} (h : l.length < n) (hm : ∀ x, (f x).length = m) (i : Nat) (hi : i < m) : (flatZ f z l n)[l.length * m + i]? = (f z)[i]? := by
  obtain ⟨r, h1, _⟩ := flatZ_split f z h
  have hl := flat_len f m hm l
  rw [h1, List.getElem?_append_right (by omega), hl, Nat.add_sub_cancel_left, List.getElem?_append_left (by rw [hm]; exact hi)]
theorem made_flat {α : Type} (f : α → List Value) (z : α) (m : Nat) (_hm : 0 < m) (hz : (f z).length = m) (n : Nat) : madeCells (f z).toArray (n * m) = (flatZ f z [] n).toArray := by
  have key : ∀ n, (List.replicate n z).flatMap f = (List.range (n * m)).map (fun i => (f z)[i % m]!) := by
    intro n
    induction n with
    | zero => simp
    | succ n ih =>
      rw [List.replicate_succ', List.flatMap_append, ih, Nat.succ_mul, List.range_add, List.map_append]
      congr 1
      simp only [List.flatMap_cons, List.flatMap_nil, List.append_nil, List.map_map]
      apply List.ext_getElem
      · simp [hz]
      · intro i h1 h2
        have : i < m := by rw [hz] at h1; exact h1
        simp [Nat.mod_eq_of_lt this, Nat.add_mod, h1]
  unfold madeCells flatZ
  apply Array.toList_inj.1
  simp [key n, hz]

/-- A result: its value, the slice of the rules that are met. -/
def rc3 (x : PVal × Value) : List Value := [.int .i64 x.1.kind, .int .i64 x.1.n, x.2]
def rZero : PVal × Value := (PVal.zero, .slice none 0 0)
theorem make_values (n : Nat) (h : n ≤ 1000) (w : World) : (Instr.makeSlice 47 (.int .i64 (n : Int)) (.int .i64 (n : Int))).run Tryz.prog w = .ok (.slice (some ⟨w.heap.size, 0, none⟩) n n) (w.alloc (.cells (flatZ vcells PVal.zero [] n).toArray 51)) := by
  obtain ⟨i, hi, hz, hs, hb⟩ := info_parts Tryz.info_value
  have hr := run_make (P := Tryz.prog) w 47 51 i _ Tryz.underlying47 hi hz .i64 .i64 n n (by omega) (Int.le_refl _) (by rw [hb]; omega) (by omega)
  have hm := made_flat vcells PVal.zero 2 (by omega) rfl n
  simp only [Int.toNat_natCast, hs] at hr
  rw [hr, ← hm]
  rfl
theorem make_results (n : Nat) (h : n ≤ 1000) (w : World) : (Instr.makeSlice 125 (.int .i64 (n : Int)) (.int .i64 (n : Int))).run Tryz.prog w = .ok (.slice (some ⟨w.heap.size, 0, none⟩) n n) (w.alloc (.cells (flatZ rc3 rZero [] n).toArray 128)) := by
  obtain ⟨i, hi, hz, hs, hb⟩ := info_parts Tryz.info_result
  have hr := run_make (P := Tryz.prog) w 125 128 i _ Tryz.underlying125 hi hz .i64 .i64 n n (by omega) (Int.le_refl _) (by rw [hb]; omega) (by omega)
  have hm := made_flat rc3 rZero 3 (by omega) rfl n
  simp only [Int.toNat_natCast, hs] at hr
  rw [hr, ← hm]
  rfl
end Go.Proofs.YthnggjaecngbiaaGreatDoor

namespace Go.Proofs.YthnggjaecngbiaaGreatDoor
open Go.RowKit

set_option maxRecDepth 100000 in
set_option maxHeartbeats 3200000 in
theorem fits_any (v : Value) (xs : List LItem) (vl : Value) (vals : List Int) (w : World) (hit : ItemsV w v xs) (hlen : xs.length ≤ 12) (hvl : SlAt w 1 vl vals.length (ints vals)) :
    Calls Tryz.prog 43 #[v, vl] w fun e w' => e = .returned (.bool (fitsP (xs.map LItem.it) vals)) ∧ Below w.heap.size w w' := by
  obtain ⟨io, ic, rfl⟩ := hit.1.form
  obtain ⟨vo, vc, rfl⟩ := hvl.form
  have HI := hide hit
  have HV := hide hvl
  clear hit hvl
  go_enter Tryz.func43, Tryz.ntmps43
  go_wp2_with fail
  go_loopg [5, 10] xs.length (fun g n i wr => ∃ j : Nat, j ≤ xs.length ∧ g = xs.length - j ∧ i = .int .i64 (j : Int) ∧ n = .int .i64 (inputsTo (xs.map LItem.it) j : Int) ∧ Below w.heap.size w wr)
  case atStart => exact ⟨0, by omega, rfl, rfl, by simp [inputsTo], Below.refl _ _⟩
  case round =>
    obtain ⟨j, hj, hg, rfl, rfl, hb⟩ := hrel
    have A : Aside (gk = xs.length - j ∧ Below w.heap.size w wr) := ⟨hg, hb⟩
    have hile := inputsTo_le (xs.map LItem.it) j
    clear hg
    by_cases hlt : j < xs.length
    · rcases (unhide HI).1 with ⟨h0, _⟩ | ⟨g, cap', hv, hc, hm, hgl, hx⟩
      · omega
      simp only [Value.slice.injEq] at hv
      obtain ⟨rfl, _, rfl⟩ := hv
      have key : ∀ i, i < 7 → wr.cell? ⟨g, j * 7 + i, none⟩ = (itCells xs[j])[i]? := fun i hi => by
        rw [hb.cell (p := ⟨g, j * 7 + i, none⟩) hgl, hx _ (by omega)]
        exact flat_at itCells 7 (fun _ => rfl) xs j i hlt hi
      have k0 := key 0 (by omega)
      have k1 := key 1 (by omega)
      have k2 := key 2 (by omega)
      have k3 := key 3 (by omega)
      have k4 := key 4 (by omega)
      have k5 := key 5 (by omega)
      have k6 := key 6 (by omega)
      simp only [itCells, icells, List.getElem?_cons_zero, List.getElem?_cons_succ, Nat.add_zero] at k0 k1 k2 k3 k4 k5 k6
      have hji : j < (xs.map LItem.it).length := by simpa using hlt
      have hxe : (xs.map LItem.it)[j] = xs[j].it := by simp
      have hjc : (j : Int) < xs.length := by omega
      have his := inputsTo_succ hji
      rw [hxe] at his
      have hxi := (unhide HI).2 xs[j] (List.getElem_mem hlt)
      generalize xs[j] = x at *
      obtain ⟨co, cc, hcv⟩ := hxi.1.form
      obtain ⟨ro, rc, hrv⟩ := hxi.2.2.1.form
      obtain ⟨⟨nm, bT, mk, po, cs, dr, rl⟩, cv, rv0, zv⟩ := x
      simp only at k0 k1 k2 k3 k4 k5 k6 hcv hrv his
      subst hcv hrv
      have HIS := hide his
      clear key hx hc hm hgl hb hxi hxe his
      cases bT with
      | true =>
        go_wp2_with fail
        go_roundg (xs.length - (j + 1))
        case measure => have := A.out.1; omega
        case rel => exact ⟨j + 1, by omega, rfl, by go_num, by rw [unhide HIS]; rfl, A.out.2.alloc (A.out.2.size) _⟩
      | false =>
        go_wp2_with fail
        go_roundg (xs.length - (j + 1))
        case measure => have := A.out.1; omega
        case rel => exact ⟨j + 1, by omega, rfl, by go_num, by rw [unhide HIS]; simp, A.out.2.alloc (A.out.2.size) _⟩
    · have hje : j = xs.length := by omega
      have hjc : ¬ (j : Int) < xs.length := by omega
      have hinp : inputsTo (xs.map LItem.it) j = inputsP (xs.map LItem.it) := by unfold inputsP; rw [hje]; simp
      rw [hinp] at *
      by_cases heq : vals.length = inputsP (xs.map LItem.it)
      · have heqb : ((vals.length : Int) == (inputsP (xs.map LItem.it) : Int)) = true := by simp; omega
        have HFI : Hid (fitsP (xs.map LItem.it) vals = !(vals.any numBeyond)) := hide (by unfold fitsP; simp [heq])
        have HVr := hide ((unhide HV).below hb)
        have hv12 : vals.length ≤ 100000 := by
          rw [heq]
          have := inputsTo_le (xs.map LItem.it) (xs.map LItem.it).length
          unfold inputsP
          rw [List.length_map] at this ⊢
          omega
        clear hje hb heq hinp
        go_wp2_with fail
        refine (containsInts_any _ _ _ (unhide HVr) hv12).mono ?_
        rintro e w2 ⟨rfl, hb2⟩
        have HB2 := hide (below_after A.out.2 hb2)
        clear hb2
        go_wp2
        go_ret
        exact ⟨ret_bool (unhide HFI).symm, unhide HB2⟩
      · have heqb : ((vals.length : Int) == (inputsP (xs.map LItem.it) : Int)) = false := by simp; omega
        have HFI : Hid (fitsP (xs.map LItem.it) vals = false) := hide (by unfold fitsP; simp [heq])
        clear hje hb heq hinp
        go_wp2_with fail
        go_ret
        exact ⟨ret_bool (unhide HFI).symm, A.out.2⟩

set_option maxHeartbeats 400000 in
theorem isSet_any (n : Int) (w : World) :
    Calls Tryz.prog 42 #[.int .i64 n] w fun e w' => e = .returned (.bool (decide (0 ≤ n ∧ n ≤ 7))) ∧ Below w.heap.size w w' := by
  by_cases h1 : 0 ≤ n
  · go_enter Tryz.func42, Tryz.ntmps42
    go_wp2
    go_ret
    refine ⟨ret_bool ?_, Below.refl _ _⟩
    rw [Bool.eq_iff_iff]
    simp
    omega
  · go_enter Tryz.func42, Tryz.ntmps42
    go_wp2
    go_ret
    refine ⟨ret_bool ?_, Below.refl _ _⟩
    rw [Bool.eq_iff_iff]
    simp
    omega
end Go.Proofs.YthnggjaecngbiaaGreatDoor

