import Derived.Test.YthnggjaecngbiaaGreatDoorSrC
namespace Go.Proofs.YthnggjaecngbiaaGreatDoor
open Go.RowKit
theorem numsV_len (v : List Int) : (valsN v).length = v.length := by simp [valsN]
set_option maxRecDepth 100000 in
set_option maxHeartbeats 3200000 in
theorem countMet_any (rv nv : Value) (zs : List (Value × PRule)) (v : List Int) (w : World) (hv : SlAt w 2 rv zs.length (zs.flatMap zcells)) (ht : ∀ y ∈ zs, SlAt w 4 y.1 y.2.tests.length (tsCells y.2.tests) ∧ y.2.tests.length = v.length ∧ ∀ t ∈ y.2.tests, WfT t) (hl : zs.length ≤ 1000) (hnv : SlAt w 1 nv v.length (ints v)) (hvl : v.length ≤ 100) :
  Calls Tryz.prog 134 #[rv, nv] w fun e w' => e = .returned (.int .i64 ((metP (zs.map Prod.snd) (valsN v)).length : Int)) ∧ Below w.heap.size w w' := by
 obtain ⟨ao, cap, rfl⟩ := hv.form
 obtain ⟨bo, bcap, rfl⟩ := hnv.form
 have HV := hide hv
 have HW := hide hnv
 have HT := hide ht
 have hmk := make_values v.length (by omega)
 clear hv hnv ht
 go_enter Tryz.func134, Tryz.ntmps134
 go_wp2_with fail
 clear hmk
 go_loopg [13] v.length (fun g i wr => ∃ j : Nat, j ≤ v.length ∧ g = v.length - j ∧ i = .int .i64 (j : Int) ∧ Below w.heap.size w wr ∧ wr.heap[w.heap.size]? = some (.cells (flatZ vcells PVal.zero (valsN (v.take j)) v.length).toArray 51))
 case atStart => exact ⟨0, by omega, rfl, rfl, (Below.refl _ _).alloc (Nat.le_refl _) _, by simpa [valsN] using alloc_last w (.cells (flatZ vcells PVal.zero [] v.length).toArray 51)⟩
 case round =>
  obtain ⟨j, hj, hg, rfl, hb, harr⟩ := hrel
  have A : Aside (gk = v.length - j ∧ Below w.heap.size w wr ∧ wr.heap[w.heap.size]? = some (.cells (flatZ vcells PVal.zero (valsN (v.take j)) v.length).toArray 51)) := ⟨hg, hb, harr⟩
  clear hg
  have hnl : (valsN (v.take j)).length = j := by simp [valsN]; omega
  by_cases hlt : j < v.length
  ·obtain ⟨g2, rfl, k0, hg2⟩ := ((uh HW).below hb).at1 hlt
   rw [show (ints v)[j]? = some (.int .i64 v[j]) by simp [ints, hlt]] at k0
   have hns : valsN (v.take (j + 1)) = valsN (v.take j) ++ [⟨0, v[j]⟩] := by
    unfold valsN; rw [List.take_succ_eq_append_getElem hlt, List.map_append]; rfl
   generalize v[j] = y at *
   have hjc : (j : Int) < v.length := by omega
   have HNS := hide hns
   have hsw : w.heap.size < wr.heap.size := lt_of_block harr
   clear hb hns
   go_wp2_with fail
   refine (evnum_any y _).mono ?_
   rintro e w2 ⟨rfl, hb2⟩
   have harr2 := (hb2.block _ hsw).trans harr
   have e0 : w2.cell? ⟨w.heap.size, j * 2, none⟩ = some (.int .i64 0) := by
    rw [(arr_cell harr2 _).1]
    have := flatZ_zero vcells PVal.zero (l := valsN (v.take j)) (n := v.length) (m := 2) (by omega) (fun _ => rfl) 0 (by omega)
    rw [hnl, Nat.add_zero] at this
    rw [this]; rfl
   have e1 : w2.cell? ⟨w.heap.size, j * 2 + 1, none⟩ = some (.int .i64 0) := by
    rw [(arr_cell harr2 _).1]
    have := flatZ_zero vcells PVal.zero (l := valsN (v.take j)) (n := v.length) (m := 2) (by omega) (fun _ => rfl) 1 (by omega)
    rw [hnl] at this
    rw [this]; rfl
   have q0 := (arr_cell harr2 (j * 2)).2
   have q1 := (arr_cell harr2 (j * 2 + 1)).2
   have hsw2 : w.heap.size < w2.heap.size := lt_of_block harr2
   have HSET : Hid (((w2.setCell ⟨w.heap.size, j * 2, none⟩ (.int .i64 0)).setCell ⟨w.heap.size, j * 2 + 1, none⟩ (.int .i64 y)).heap[w.heap.size]? = some (.cells (flatZ vcells PVal.zero (valsN (v.take j) ++ [⟨0, y⟩]) v.length).toArray 51)) := hide (by
    rw [heap_set_same (heap_set_same harr2 _)]
    have := flatZ_set2 vcells PVal.zero (l := valsN (v.take j)) (n := v.length) (by omega) ⟨0, y⟩ (fun _ => rfl) rfl (a := .int .i64 0) (b := .int .i64 y) rfl
    rw [hnl] at this
    rw [this])
   have HB2 := hide (below_after A.out.2.1 hb2)
   clear hb2 harr2 harr
   go_wp2_with fail
   go_roundg (v.length - (j + 1))
   case measure => have := A.out.1; omega
   case rel =>
    refine ⟨j + 1, by omega, rfl, by go_num, ((uh HB2).setCell (p := ⟨w.heap.size, j * 2, none⟩) (Nat.le_refl _) _).setCell (p := ⟨w.heap.size, j * 2 + 1, none⟩) (Nat.le_refl _) _, ?_⟩
    rw [uh HNS]
    exact uh HSET
  ·have hje : j = v.length := by omega
   have hjc : ¬ (j : Int) < v.length := by omega
   have HSL : Hid (SlAt wr 2 (.slice (some ⟨w.heap.size, 0, none⟩) v.length v.length) (valsN v).length ((valsN v).flatMap vcells)) := hide (by
    rw [hje, List.take_length, show flatZ vcells PVal.zero (valsN v) v.length = (valsN v).flatMap vcells by
     have := flatZ_full vcells PVal.zero (valsN v)
     rw [numsV_len] at this
     exact this] at harr
    rw [numsV_len]
    exact sl_of_arr harr (Nat.le_refl _) (by unfold maxLen; omega))
   have HBR := hide hb
   clear hje hb harr
   go_wp2_with fail
   refine (met_any _ _ zs (valsN v) _ ((uh HV).below (uh HBR)) (fun y hy => ⟨(uh HT y hy).1.below (uh HBR), by rw [numsV_len]; exact (uh HT y hy).2.1, (uh HT y hy).2.2⟩) hl (uh HSL) (by rw [numsV_len]; omega)).mono ?_
   rintro e w3 ⟨mv, rfl, hb3, ho3⟩
   obtain ⟨mo, mc, hmv⟩ := (SlAt.of_owns ho3).form
   subst hmv
   have HB3 := hide (below_after (uh HBR) hb3)
   clear hb3 ho3
   go_wp2_with fail
   go_ret
   exact ⟨rfl, uh HB3⟩
end Go.Proofs.YthnggjaecngbiaaGreatDoor
namespace Go.Proofs.YthnggjaecngbiaaGreatDoor
open Go.RowKit
def wantFn : Bool → Nat
 | true => 52
 | false => 51
set_option maxRecDepth 100000 in
theorem gapWant_any (n : Nat) (w : World) (_hn : n ≤ 1000) : Calls Tryz.prog 51 #[.int .i64 (n : Int)] w fun e w' => e = .returned (.bool (isSought false n)) ∧ w' = w := by
 go_enter Tryz.func51, Tryz.ntmps51
 go_wp2
 go_ret
 refine ⟨ret_bool ?_, rfl⟩
 rw [Bool.eq_iff_iff]
 simp [isSought]
set_option maxRecDepth 100000 in
theorem overlapWant_any (n : Nat) (w : World) (hn : n ≤ 1000) : Calls Tryz.prog 52 #[.int .i64 (n : Int)] w fun e w' => e = .returned (.bool (isSought true n)) ∧ w' = w := by
 go_enter Tryz.func52, Tryz.ntmps52
 go_wp2
 go_ret
 refine ⟨ret_bool ?_, rfl⟩
 rw [Bool.eq_iff_iff]
 simp [isSought]
 try omega
theorem searchC_len (wanted : List Int → Bool) (ch : List Int → List Int) : ∀ (d : Nat) (v r : List Int), searchC wanted ch d v = some r → r.length = v.length + d
 | 0, v, r, h => by
  unfold searchC at h
  split at h
  ·simp only [Option.some.injEq] at h
   rw [← h]
   rfl
  ·cases h
 | d + 1, v, r, h => by
  unfold searchC at h
  obtain ⟨y, hy, hr⟩ := List.exists_of_findSome?_eq_some h
  have := searchC_len wanted ch d (v ++ [y]) r hr
  rw [this]
  simp
  omega
theorem choice_len {cols : List ByteArray} {rs : List PRule} {v : List Int} (hr : rs.length ≤ 8) (hc : cols.length ≤ 3) (hw : ∀ r ∈ rs, r.tests.length = cols.length) : (choiceP cols rs v).length ≤ 1000 := by
 unfold choiceP
 split
 ·simp
 ·unfold candP
  have h1 := Lib.compact_length_le ((keptP cols (cols.getD v.length noName) rs).mergeSort fun x y => decide (x ≤ y))
  rw [List.length_mergeSort] at h1
  have h2 : (keptP cols (cols.getD v.length noName) rs).length ≤ (rawP cols (cols.getD v.length noName) rs).length := List.length_filter_le _ _
  have h3 := rawTo_len (cols := cols) (col := cols.getD v.length noName) (n := 3) (fun r hr' => by rw [hw r hr']; exact hc) rs.length (Nat.le_refl _)
  unfold rawP at h2
  omega
def LeastOf (cols : List ByteArray) (rs : List PRule) (many : Bool) (d : Nat) (v : List Int) (fv : Value) (w : World) (e : Ending) (w' : World) : Prop :=
 (leastP cols rs many d v = none ∧ e = .returned (.slice none 0 0) ∧ Below w.heap.size w w') ∨
 ∃ r sl, leastP cols rs many d v = some r ∧ e = .returned sl ∧ Below w.heap.size w w' ∧ ((d = 0 ∧ sl = fv) ∨ (0 < d ∧ w'.ownsRow w.heap.size 3 1 sl r.length (ints r)))
theorem leastP_find {cols : List ByteArray} {rs : List PRule} {many : Bool} {d : Nat} {v : List Int} : leastP cols rs many (d + 1) v = (choiceP cols rs v).findSome? fun y => leastP cols rs many d (v ++ [y]) := rfl
theorem lfind_none {f : Int → Option (List Int)} {l : List Int} {j : Nat} (h : j < l.length) (hn : (l.take j).findSome? f = none) (hx : f l[j] = none) : (l.take (j + 1)).findSome? f = none := by
 rw [List.take_succ_eq_append_getElem h, List.findSome?_append, hn]
 simp [hx]
theorem lfind_hit {f : Int → Option (List Int)} {l : List Int} {j : Nat} (h : j < l.length) (hn : (l.take j).findSome? f = none) {r : List Int} (hx : f l[j] = some r) : l.findSome? f = some r := by
 have h1 : l.findSome? f = (l.take j ++ l.drop j).findSome? f := by rw [List.take_append_drop]
 rw [h1, List.findSome?_append, hn, List.drop_eq_getElem_cons h, List.findSome?_cons, hx]
 rfl
set_option maxRecDepth 100000 in
set_option maxHeartbeats 3200000 in
theorem least_leaf (x : LItem) (many : Bool) (v : List Int) (fv : Value) (w : World) (hx : ItemV w x) (hr8 : x.it.rules.length ≤ 8) (hc3 : x.it.cols.length ≤ 3) (hwd : ∀ r ∈ x.it.rules, r.tests.length = x.it.cols.length ∧ ∀ t ∈ r.tests, WfT t) (hfv : SlAt w 1 fv v.length (ints v)) (hvl : v.length = x.it.cols.length) :
  Calls Tryz.prog 105 #[iv x.it x.cv x.rv, fv, .func (.func (wantFn many)) #[] #[]] w (LeastOf x.it.cols x.it.rules many 0 v fv w) := by
 obtain ⟨it, cv, rv0, zv⟩ := x
 obtain ⟨co, cc, hcv⟩ := hx.1.form
 obtain ⟨ro, rc, hrv⟩ := hx.2.2.1.form
 obtain ⟨fo, fc, rfl⟩ := hfv.form
 simp only at hcv hrv
 subst hcv hrv
 simp only at hwd hr8 hc3 hvl ⊢
 have hmap : (zv.zip it.rules).map Prod.snd = it.rules := List.map_snd_zip (by have := hx.2.1; simp only at this; omega)
 have hzl : (zv.zip it.rules).length = it.rules.length := by have := hx.2.1; simp only at this; simp; omega
 have HCM : Hid (∀ w', Below w.heap.size w w' → Calls Tryz.prog 134 #[.slice ro it.rules.length rc, .slice fo v.length fc] w' fun e w'' => e = .returned (.int .i64 ((metP it.rules (valsN v)).length : Int)) ∧ Below w'.heap.size w' w'') := hide (fun w' hb' => by
  have h1 := hx.below hb'
  have := countMet_any (.slice ro it.rules.length rc) (.slice fo v.length fc) (zv.zip it.rules) v w' (by rw [hzl, ← rcells_z]; exact h1.2.2.1) (fun y hy => ⟨h1.2.2.2 y hy, by rw [hvl]; exact (hwd y.2 (List.of_mem_zip hy).2).1, (hwd y.2 (List.of_mem_zip hy).2).2⟩) (by omega) (hfv.below hb') (by omega)
  rw [hmap] at this
  exact this)
 have hml := metTo_len it.rules (valsN v) it.rules.length
 have hmm : (metP it.rules (valsN v)).length ≤ 8 := by unfold metP; omega
 have HL : Hid (leastP it.cols it.rules many 0 v = if isSought many (metP it.rules (valsN v)).length then some v else none) := hide rfl
 clear hx hfv hwd hmap hzl hml
 generalize (metP it.rules (valsN v)).length = n at *
 simp only [iv, icells]
 obtain ⟨w1, hw1⟩ : ∃ w1, w1 = w.alloc (.cells #[.string it.name, .bool it.isT, .int .i64 (it.marks : Int), .int .u8 it.policy, .slice co it.cols.length cc, .int .i64 (it.drops : Int), .slice ro it.rules.length rc] 119) := ⟨_, rfl⟩
 have hb1 : Below w.heap.size w w1 := by rw [hw1]; exact (Below.refl _ w).alloc (Nat.le_refl _) _
 have hN1 : w1.heap[w.heap.size]? = some (.cells #[.string it.name, .bool it.isT, .int .i64 (it.marks : Int), .int .u8 it.policy, .slice co it.cols.length cc, .int .i64 (it.drops : Int), .slice ro it.rules.length rc] 119) := by rw [hw1]; exact alloc_last w _
 obtain ⟨⟨c0, c1, c2, c3, c4, c5, c6⟩, -⟩ := cells7 hN1
 have hs1 := lt_of_block hN1
 have HB1 := hide hb1
 clear hb1 hN1
 have hle : ((v.length : Int) == it.cols.length) = true := by rw [hvl]; simp
 clear hvl
 cases many <;> simp only [wantFn]
 all_goals
  go_enter Tryz.func105, Tryz.ntmps105
  go_wp2_with fail
  rw [← hw1]
  clear hw1 c0 c1 c2 c3 c4 c5 c6
  refine (uh HCM _ (by first | exact uh HB1 | exact (uh HB1).drew)).mono ?_
  rintro e w2 ⟨rfl, hb2⟩
  have HB2 := hide (below_after (uh HB1) hb2)
  clear hb2
  go_wp2_with fail
  first | refine (gapWant_any n _ (by omega)).mono ?_ | refine (overlapWant_any n _ (by omega)).mono ?_
  rintro e w3 ⟨rfl, rfl⟩
  first
   | cases hq : isSought false n with
    | true =>
     rw [hq] at HL
     go_wp2_with fail
     go_ret
     exact Or.inr ⟨v, _, uh HL, rfl, uh HB2, Or.inl ⟨rfl, rfl⟩⟩
    | false =>
     rw [hq] at HL
     go_wp2_with fail
     go_ret
     exact Or.inl ⟨uh HL, rfl, uh HB2⟩
   | cases hq : isSought true n with
    | true =>
     rw [hq] at HL
     go_wp2_with fail
     go_ret
     exact Or.inr ⟨v, _, uh HL, rfl, uh HB2, Or.inl ⟨rfl, rfl⟩⟩
    | false =>
     rw [hq] at HL
     go_wp2_with fail
     go_ret
     exact Or.inl ⟨uh HL, rfl, uh HB2⟩
end Go.Proofs.YthnggjaecngbiaaGreatDoor
