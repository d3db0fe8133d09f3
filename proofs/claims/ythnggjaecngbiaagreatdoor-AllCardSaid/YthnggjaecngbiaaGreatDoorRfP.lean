import Derived.Test.YthnggjaecngbiaaGreatDoorRgI
namespace Go.Proofs.YthnggjaecngbiaaGreatDoor
open Go.RowKit
def PolI (it : PItem) : Prop := (it.isT = true ∧ it.policy ≠ 0) ∨ (it.isT = false ∧ it.policy = 0)
theorem rulesR_pol (s : ByteArray) : ∀ (f k : Nat) (i it : PItem) (q : Nat), PolI i → rulesR s f k i = .inr (it, q) → PolI it
 | 0, k, i, it, q, _, h => by cases h
 | f + 1, k, i, it, q, hw, h => by
  simp only [rulesR] at h
  split at h
  ·simp only [Sum.inr.injEq, Prod.mk.injEq] at h
   rw [← h.1]; exact hw
  ·split at h
   ·cases h
   ·exact rulesR_pol s f _ _ it q (by exact hw) h
theorem inputR_pol {s : ByteArray} {k q : Nat} {it : PItem} (h : inputR s k = .inr (it, q)) : PolI it := by
 unfold inputR at h
 split at h
 ·cases h
 rename_i x q1 hn
 have fin : ∀ (r m : Nat), endIn s r ⟨x, false, m, 0, [], 0, []⟩ = .inr (it, q) → PolI it := fun r m h => by
  unfold endIn at h
  split at h
  ·simp only [Sum.inr.injEq, Prod.mk.injEq] at h
   rw [← h.1]; exact Or.inr ⟨rfl, rfl⟩
  ·cases h
 split at h
 ·split at h
  ·cases h
  ·exact fin _ _ h
 ·exact fin _ 0 h
theorem isPol_ne {c : Int} (h : isPol c = true) : c ≠ 0 := fun e => by rw [e] at h; exact absurd h (by decide)
theorem tableR_pol {s : ByteArray} {k q : Nat} {it : PItem} (h : tableR s k = .inr (it, q)) : PolI it := by
 unfold tableR at h
 split at h
 ·cases h
 rename_i x q1 hn
 split at h
 ·cases h
 rename_i c q2 hp
 have hc : c ≠ 0 := by
  unfold policyR at hp
  split at hp
  ·rename_i hi
   simp only [Sum.inr.injEq, Prod.mk.injEq] at hp
   rw [← hp.1]; exact isPol_ne hi
  ·cases hp
 split at h
 ·cases h
 rename_i xs q3 hcc
 have fin : ∀ (r d : Nat), bodyR s r ⟨x, true, 0, c, xs, d, []⟩ = .inr (it, q) → PolI it := fun r d h => by
  unfold bodyR at h
  split at h
  ·exact rulesR_pol s _ _ _ _ _ (Or.inl ⟨rfl, hc⟩) h
  ·cases h
 unfold dropsR at h
 split at h
 ·split at h
  ·cases h
  ·exact fin _ _ h
 ·exact fin _ 0 h
theorem itemR_pol {s : ByteArray} {k q : Nat} {it : PItem} (h : itemR s k = .inr (it, q)) : PolI it := by
 unfold itemR at h
 split at h
 ·exact inputR_pol h
 split at h
 ·exact tableR_pol h
 ·cases h
theorem itemsR_pol (s : ByteArray) : ∀ (f k : Nat) (xs its : List PItem), (∀ i ∈ xs, PolI i) → itemsR s f k xs = .inr its → ∀ i ∈ its, PolI i
 | 0, k, xs, its, _, h => by cases h
 | f + 1, k, xs, its, hw, h => by
  simp only [itemsR] at h
  split at h
  ·simp only [Sum.inr.injEq] at h
   rw [← h]; exact hw
  ·split at h
   ·cases h
   ·rename_i it q hn
    refine itemsR_pol s f q (xs ++ [it]) its ?_ h
    intro y hy
    simp at hy
    rcases hy with hy | rfl
    ·exact hw y hy
    ·exact itemR_pol hn
theorem planR_pol {s : ByteArray} {its : List PItem} (h : planR s = .inr its) : ∀ i ∈ its, PolI i :=
 itemsR_pol s _ 0 [] its (by simp) h
theorem u8_47 : u8 47 = 47 := rfl
theorem u8_92 : u8 92 = 92 := rfl
theorem joinTail_snoc (sep : List UInt8) (r : List (List UInt8)) (y : List UInt8) : Lib.joinTail sep (r ++ [y]) = Lib.joinTail sep r ++ sep ++ y := by
 simp [Lib.joinTail, List.append_assoc]
theorem join_snoc (cols : List ByteArray) (c : ByteArray) : joinOut (cols ++ [c]) = joinOut cols ++ (if cols = [] then [] else [44]) ++ c.data.toList := by
 unfold joinOut
 cases cols with
 | nil => simp [Lib.join_one, Lib.join_nil]
 | cons x r =>
  rw [List.map_append, List.map_cons, List.cons_append, Lib.join_cons, Lib.join_cons, if_neg (by simp)]
  simp only [List.map_cons, List.map_nil]
  rw [joinTail_snoc]
  simp only [List.append_assoc]
theorem zcells_eq (y : Value × PRule) : zcells y = [y.1, .int .i64 y.2.num] := rfl
set_option maxRecDepth 100000 in
set_option maxHeartbeats 3200000 in
theorem ritem_in (it : PItem) (co ro : Option Addr) (cc rc : Nat) (w : World) (hw : WfI it) (hT : it.isT = false) (hpol : it.policy = 0) :
  Calls Tryz.prog 77 #[.agg (ricells it (.slice co it.cols.length cc) (.slice ro it.rules.length rc))] w fun e w' => e = .returned (.string ⟨(itemOut it).toArray⟩) ∧ Below w.heap.size w w' := by
 simp only [ricells]
 have hm : rmarks it = (it.marks : Int) := by unfold rmarks; rw [hT]; rfl
 have hdp : rdrops it = false := by unfold rdrops; rw [hT]; rfl
 have hns := hw.name
 have HO : Hid (itemOut it = [105, 110, 32] ++ it.name.data.toList ++ marksOut 47 it.marks ++ [59] ++ [10]) := hide (by unfold itemOut inputOut; rw [hT]; rfl)
 have hmk := hw.marks
 rw [hm, hdp, hpol]
 clear hm hdp hpol hw hT
 by_cases hz : it.marks = 0
 ·have HZ : Hid (marksOut 47 it.marks = []) := hide (by unfold marksOut; rw [if_pos hz])
  rw [hz]
  clear hz
  go_enter Tryz.func77, Tryz.ntmps77
  go_wp2_with fail
  go_ret
  refine ⟨ret_str ?_, (Below.refl _ w).alloc (Nat.le_refl _) _⟩
  rw [uh HO, uh HZ]
  simp
 ·have hzb : ((it.marks : Int) == 0) = false := by rw [beq_eq_false_iff_ne]; omega
  have HZ : Hid (marksOut 47 it.marks = [u8 47] ++ markOut it.marks 3) := hide (by unfold marksOut; rw [if_neg hz])
  have HB0 := hide ((Below.refl _ w).alloc (Nat.le_refl _) (.cells #[.string it.name, .int .i64 (it.marks : Int), .int .u8 0, .bool false, .slice co it.cols.length cc, .slice ro it.rules.length rc] 141))
  clear hz
  obtain ⟨d1, hd1⟩ : ∃ d : ByteArray, (⟨(markOut it.marks 3).toArray⟩ : ByteArray) = d := ⟨_, rfl⟩
  have hs1 : d1.size ≤ 3 := by rw [← hd1]; show (markOut it.marks 3).toArray.size ≤ 3; rw [List.size_toArray]; exact markOut_len _ _
  have HD1 : Hid (d1.data.toList = markOut it.marks 3) := hide (by rw [← hd1])
  have E1 := hide hd1
  clear hd1
  go_enter Tryz.func77, Tryz.ntmps77
  go_wp2_with fail
  go_region_with (go_at_call 112; refine (rletters_any it.marks _ hmk).mono ?_; rintro e w1 ⟨rfl, hb1⟩; rw [uh E1]; have hb1 := below_of_drew hb1; have HB1 := hide (below_after (uh HB0) hb1); obtain ⟨⟨c0, c1, c2, c3, c4, c5⟩, f0, f1, f2, f3, f4, f5⟩ := cells6 ((hb1.block w.heap.size (by simp)).trans (alloc_last w _)); clear hb1)
  all_goals
   go_wp2_with fail
   go_ret
   refine ⟨ret_str ?_, uh HB1⟩
   rw [uh HO, uh HZ]
   simp [uh HD1, u8_47]
set_option maxRecDepth 100000 in
set_option maxHeartbeats 3200000 in
theorem ritem_table (it : PItem) (co ro : Option Addr) (cc rc : Nat) (vs : List Value) (w : World) (hx : RItemV w ⟨it, .slice co it.cols.length cc, .slice ro it.rules.length rc, vs⟩) (hw : WfI it) (hT : it.isT = true) (hpol : it.policy ≠ 0) :
  Calls Tryz.prog 77 #[.agg (ricells it (.slice co it.cols.length cc) (.slice ro it.rules.length rc))] w fun e w' => e = .returned (.string ⟨(itemOut it).toArray⟩) ∧ Below w.heap.size w w' := by
 simp only [ricells]
 have hm : rmarks it = (it.drops : Int) := by unfold rmarks; rw [hT]; rfl
 have hpb : (it.policy == 0) = false := by rw [beq_eq_false_iff_ne]; exact hpol
 have hns := hw.name
 have hp0 := hw.policy
 have hmk := hw.drops
 have hcl := hw.clen
 have hrl := hw.rlen
 have HWC := hide hw.cols
 have HWR := hide hw.rules
 obtain ⟨dp, hdp⟩ : ∃ dp, rdrops it = dp := ⟨_, rfl⟩
 have HDP : Hid (dp = decide (it.drops ≠ 0)) := hide (by rw [← hdp]; unfold rdrops; rw [hT]; rfl)
 have HO : Hid (itemOut it = [116, 97, 98, 108, 101, 32] ++ it.name.data.toList ++ [32] ++ [u8 it.policy] ++ [40] ++ joinOut it.cols ++ [41] ++ marksOut 92 it.drops ++ [123] ++ it.rules.flatMap ruleOut ++ [125] ++ [10]) := hide (by unfold itemOut tableOut; rw [hT]; rfl)
 rw [hm, hdp]
 have hq : ((w.alloc (.cells #[.string it.name, .int .i64 (it.drops : Int), .int .u8 it.policy, .bool dp, .slice co it.cols.length cc, .slice ro it.rules.length rc] 141)).alloc (.cells #[.int .u8 it.policy] 5)).heap[w.heap.size + 1]? = some (.cells #[.int .u8 it.policy] 5) := by have := alloc_last (w.alloc (.cells #[.string it.name, .int .i64 (it.drops : Int), .int .u8 it.policy, .bool dp, .slice co it.cols.length cc, .slice ro it.rules.length rc] 141)) (.cells #[.int .u8 it.policy] 5); simpa using this
 have hcv := conv_at it.policy ((w.alloc (.cells #[.string it.name, .int .i64 (it.drops : Int), .int .u8 it.policy, .bool dp, .slice co it.cols.length cc, .slice ro it.rules.length rc] 141)).alloc (.cells #[.int .u8 it.policy] 5)) (w.heap.size + 1) hq
 have hb0 : Below w.heap.size w ((w.alloc (.cells #[.string it.name, .int .i64 (it.drops : Int), .int .u8 it.policy, .bool dp, .slice co it.cols.length cc, .slice ro it.rules.length rc] 141)).alloc (.cells #[.int .u8 it.policy] 5)) := ((Below.refl _ w).alloc (Nat.le_refl _) _).alloc (by simp) _
 have HR0 : Hid (((w.alloc (.cells #[.string it.name, .int .i64 (it.drops : Int), .int .u8 it.policy, .bool dp, .slice co it.cols.length cc, .slice ro it.rules.length rc] 141)).alloc (.cells #[.int .u8 it.policy] 5)).heap[w.heap.size]? = some (.cells #[.string it.name, .int .i64 (it.drops : Int), .int .u8 it.policy, .bool dp, .slice co it.cols.length cc, .slice ro it.rules.length rc] 141)) := hide (by rw [Below.heap_alloc _ _ _ (by simp)]; exact alloc_last w _)
 have HX0 := hide (hx.below hb0)
 have HB0 := hide hb0
 clear hm hdp hpol hw hT hx hb0 hq
 go_enter Tryz.func77, Tryz.ntmps77
 go_wp2_with fail
 clear hcv
 generalize ((w.alloc (.cells #[.string it.name, .int .i64 (it.drops : Int), .int .u8 it.policy, .bool dp, .slice co it.cols.length cc, .slice ro it.rules.length rc] 141)).alloc (.cells #[.int .u8 it.policy] 5)) = w1 at *
 have hs1 : w.heap.size < w1.heap.size := lt_of_block (uh HR0)
 obtain ⟨⟨c0, c1, c2, c3, c4, c5⟩, f0, f1, f2, f3, f4, f5⟩ := cells6 (uh HR0)
 clear c0 c1 c2 c3 c5 f0 f1 f2 f3 f4 f5
 obtain ⟨p0, hp0e⟩ : ∃ p : List UInt8, [116, 97, 98, 108, 101, 32] ++ it.name.data.toList ++ [32] ++ [u8 it.policy] ++ [40] = p := ⟨_, rfl⟩
 have HP0 := hide hp0e
 have hpl : p0.length ≤ 20 := by rw [← hp0e]; have : it.name.data.toList.length ≤ 8 := by simpa using hns
                                 simp; omega
 go_loopg [3, 4] it.cols.length (fun g sv i wr => ∃ (j : Nat) (d : ByteArray), j ≤ it.cols.length ∧ g = it.cols.length - j ∧ i = .int .i64 (j : Int) ∧ sv = .string d ∧ d.data.toList = p0 ++ joinOut (it.cols.take j) ∧ Below w1.heap.size w1 wr)
 case atStart =>
  refine ⟨0, _, by omega, rfl, rfl, rfl, ?_, Below.refl _ _⟩
  rw [← hp0e]
  simp [joinOut, Lib.join_nil]
 case round =>
  obtain ⟨j, d, hj, hg, rfl, rfl, hd, hb⟩ := hrel
  clear hp0e
  have A : Aside (gk = it.cols.length - j ∧ d.data.toList = p0 ++ joinOut (it.cols.take j) ∧ Below w1.heap.size w1 wr) := ⟨hg, hd, hb⟩
  have hds : d.size ≤ 20020 := by
   have h1 := joinOut_len (cols := it.cols.take j) (by simp; omega) (fun c hc => HWC.out c (List.mem_of_mem_take hc))
   have h2 : d.data.toList.length = d.size := by simp
   rw [← h2, hd, List.length_append]
   omega
  have d4 := (hb.cell (p := ⟨w.heap.size, 4, none⟩) hs1).trans c4
  have hs3 : w.heap.size < wr.heap.size := Nat.lt_of_lt_of_le hs1 hb.size
  clear hg hd
  by_cases hlt : j < it.cols.length
  ·rcases (uh HX0).2.1 with ⟨h0, _⟩ | ⟨g, cap', hv, hc, hmx, hgl, hxx⟩
   ·simp only at h0; omega
   simp only [Value.slice.injEq] at hv
   obtain ⟨rfl, _, rfl⟩ := hv
   have k0 : wr.cell? ⟨g, j, none⟩ = some (.string it.cols[j]) := by
    rw [hb.cell (p := ⟨g, j, none⟩) hgl, hxx j (by simp; omega)]
    simp [hlt]
   have HT : Hid (joinOut (it.cols.take (j + 1)) = joinOut (it.cols.take j) ++ (if it.cols.take j = [] then [] else [44]) ++ it.cols[j].data.toList) := hide (by rw [List.take_succ_eq_append_getElem hlt, join_snoc])
   have HE : Hid (it.cols.take j = [] ↔ j = 0) := hide (by rw [List.take_eq_nil_iff]; constructor
                                                           · rintro (h | h)
                                                             · exact h
                                                             · rw [h] at hlt; simp at hlt
                                                           · exact Or.inl)
   have hcs := HWC.out it.cols[j] (List.getElem_mem hlt)
   have hjc : (j : Int) < it.cols.length := by omega
   have hjcap : (j : Int) < cc := by simp only at hc; omega
   generalize it.cols[j] = col at *
   clear hxx hb hc hmx hgl
   by_cases h0 : j = 0
   ·have HH := hide h0
    have h0b : ¬ (0 : Int) < (j : Int) := by omega
    clear h0
    go_wp2_with fail
    try (go_quiet (fail))
    try (go_wp2_with fail)
    go_roundg (it.cols.length - (j + 1))
    case measure => have := A.out.1; omega
    case rel =>
     refine ⟨j + 1, _, by omega, rfl, by go_num, rfl, ?_, by first | exact A.out.2.2 | exact below_after A.out.2.2 (below_drewN _ _)⟩
     rw [uh HT, if_pos ((uh HE).2 (uh HH))]
     simp [A.out.2.1]
   ·have HH := hide h0
    have h0b : (0 : Int) < (j : Int) := by omega
    clear h0
    go_wp2_with fail
    try (go_quiet (fail))
    try (go_wp2_with fail)
    go_roundg (it.cols.length - (j + 1))
    case measure => have := A.out.1; omega
    case rel =>
     refine ⟨j + 1, _, by omega, rfl, by go_num, rfl, ?_, by first | exact A.out.2.2 | exact below_after A.out.2.2 (below_drewN _ _)⟩
     rw [uh HT, if_neg (fun h => uh HH ((uh HE).1 h))]
     simp [A.out.2.1]
  ·have hje : j = it.cols.length := by omega
   have HC : Hid (d.data.toList = p0 ++ joinOut it.cols) := hide (by have := A.out.2.1; rw [hje, List.take_length] at this; exact this)
   have hjc : ¬ (j : Int) < it.cols.length := by omega
   have hr2 := (hb.block w.heap.size hs1).trans (uh HR0)
   have HX2 := hide ((uh HX0).below hb)
   have HB2 := hide (below_after (uh HB0) hb)
   have HR2 := hide hr2
   clear d4 c4
   obtain ⟨⟨c0, c1, c2, c3, c4, c5⟩, f0, f1, f2, f3, f4, f5⟩ := cells6 hr2
   have hz : (vs.zip it.rules).length = it.rules.length := by have := (uh HX2).1; simp at this ⊢; omega
   have HZ := hide hz
   clear hje hb hr2 hz A hlt hj hs3 HX0 HB0 HR0
   obtain ⟨w2, hw2⟩ : ∃ w2, w2 = wr := ⟨_, rfl⟩
   subst hw2
   cases dp with
   | false =>
    have HM : Hid (marksOut 92 it.drops = []) := hide (by unfold marksOut; rw [if_pos (by have := uh HDP; simpa using this.symm)])
    go_wp2_with fail
    clear c0 c1 c2 c3 c4 c5 f0 f1 f2 f3 f4 f5
    have hs2 : w.heap.size < w2.heap.size := lt_of_block (uh HR2)
    have c5 := (cells6 (uh HR2)).1.2.2.2.2.2
    obtain ⟨p1, hp1e⟩ : ∃ p : List UInt8, p0 ++ joinOut it.cols ++ [41] ++ marksOut 92 it.drops ++ [123] = p := ⟨_, rfl⟩
    have hpl1 : p1.length ≤ 20030 := by
     have h1 := joinOut_len hcl (uh HWC)
     have h2 := marksOut_len 92 it.drops
     rw [← hp1e]
     simp only [List.length_append, List.length_cons, List.length_nil]
     omega
    have HP1 := hide hp1e
    go_loopg [3, 5] it.rules.length (fun g sv i wr => ∃ (l : Nat) (d : ByteArray), l ≤ it.rules.length ∧ g = it.rules.length - l ∧ i = .int .i64 (l : Int) ∧ sv = .string d ∧ d.data.toList = p1 ++ (it.rules.take l).flatMap ruleOut ∧ Below w2.heap.size w2 wr)
    case atStart =>
     refine ⟨0, _, by omega, rfl, rfl, rfl, ?_, Below.refl _ _⟩
     rw [← hp1e, uh HM]
     simp [uh HC]
    case round =>
     clear hp1e
     obtain ⟨l, d2, hl, hg, rfl, rfl, hd, hb⟩ := hrel
     have A : Aside (gk = it.rules.length - l ∧ d2.data.toList = p1 ++ (it.rules.take l).flatMap ruleOut ∧ Below w2.heap.size w2 wr) := ⟨hg, hd, hb⟩
     have hds2 : d2.size ≤ 1101200000 := by
      have h1 := rulesOut_len (it.rules.take l) (fun r hr => HWR.out r (List.mem_of_mem_take hr))
      have h2 : d2.data.toList.length = d2.size := by simp
      rw [← h2, hd, List.length_append]
      simp only [List.length_take] at h1
      omega
     have d5 := (hb.cell (p := ⟨w.heap.size, 5, none⟩) hs2).trans c5
     have hs3 : w.heap.size < wr.heap.size := Nat.lt_of_lt_of_le hs2 hb.size
     clear hg hd
     by_cases hlt : l < it.rules.length
     ·rcases (uh HX2).2.2.1 with ⟨h0, _⟩ | ⟨g, cap', hv, hc, hmx, hgl, hxx⟩
      ·simp only at h0; omega
      simp only [Value.slice.injEq] at hv
      obtain ⟨rfl, _, rfl⟩ := hv
      have hlz : l < (vs.zip it.rules).length := by rw [uh HZ]; exact hlt
      have key : ∀ i, i < 2 → wr.cell? ⟨g, l * 2 + i, none⟩ = (zcells (vs.zip it.rules)[l])[i]? := fun i hi => by
       rw [hb.cell (p := ⟨g, l * 2 + i, none⟩) hgl, hxx _ (by simp only; omega)]
       exact flat_at zcells 2 (fun _ => rfl) (vs.zip it.rules) l i hlz hi
      have k0 := key 0 (by omega)
      have k1 := key 1 (by omega)
      have hglr : g < wr.heap.size := Nat.lt_of_lt_of_le hgl hb.size
      have hy := ((uh HX2).2.2.2 (vs.zip it.rules)[l] (List.getElem_mem hlz)).below hb
      have hyw := HWR.out it.rules[l] (List.getElem_mem hlt)
      have HT : Hid ((it.rules.take (l + 1)).flatMap ruleOut = (it.rules.take l).flatMap ruleOut ++ ruleOut it.rules[l]) := hide (by rw [List.take_succ_eq_append_getElem hlt, List.flatMap_append]; simp)
      have he : (vs.zip it.rules)[l].2 = it.rules[l] := by rw [List.getElem_zip]
      rw [← he] at hyw HT
      generalize (vs.zip it.rules)[l] = y at *
      obtain ⟨yv, yts, ynum⟩ := y
      simp only [zcells, List.getElem?_cons_zero, List.getElem?_cons_succ, Nat.add_zero] at k0 k1 hy hyw HT
      obtain ⟨yo, yc, rfl⟩ := hy.form
      have hjc : (l : Int) < it.rules.length := by omega
      have hjcap : (l : Int) < rc := by simp only at hc; omega
      have HY := hide hy
      have hnum := hyw.num
      have htl := hyw.len
      simp only at hnum htl
      have HYT := hide hyw.tests
      have HRU : Hid (ruleOut ⟨yts, ynum⟩ = tOuts false yts ++ [61] ++ Lib.itoa ynum ++ [59]) := hide rfl
      clear key hxx hb hc hmx hgl hy he hyw
      obtain ⟨w4, hw4⟩ : ∃ w4, w4 = wr := ⟨_, rfl⟩
      subst hw4
      go_wp2_with fail
      go_loopg [3, 6] yts.length (fun g sv i wr => ∃ (k : Nat) (d3 : ByteArray), k ≤ yts.length ∧ g = yts.length - k ∧ i = .int .i64 (k : Int) ∧ sv = .string d3 ∧ d3.data.toList = d2.data.toList ++ tOuts false (yts.take k) ∧ Below w4.heap.size w4 wr)
      case atStart => exact ⟨0, d2, by omega, rfl, rfl, rfl, by simp [tOuts], Below.refl _ _⟩
      case round =>
       obtain ⟨k, d3, hk, hg3, rfl, rfl, hd3, hb⟩ := hrel
       have A3 : Aside (gk = yts.length - k ∧ d3.data.toList = d2.data.toList ++ tOuts false (yts.take k) ∧ Below w4.heap.size w4 wr) := ⟨hg3, hd3, hb⟩
       have hds3 : d3.size ≤ 1103000000 := by
        have h1 := tOuts_len false (yts.take k) (fun t ht => HYT.out t (List.mem_of_mem_take ht))
        have h2 : d3.data.toList.length = d3.size := by simp
        have h3 : d2.data.toList.length = d2.size := by simp
        rw [← h2, hd3, List.length_append, h3]
        simp only [List.length_take] at h1
        omega
       have d5' := (hb.cell (p := ⟨w.heap.size, 5, none⟩) hs3).trans d5
       have k0' := (hb.cell (p := ⟨g, l * 2, none⟩) hglr).trans k0
       have k1' := (hb.cell (p := ⟨g, l * 2 + 1, none⟩) hglr).trans k1
       have hs4 : w.heap.size < wr.heap.size := Nat.lt_of_lt_of_le hs3 hb.size
       clear hg3 hd3 d5 k0 k1
       by_cases hkt : k < yts.length
       ·rcases uh HY with ⟨h0, _⟩ | ⟨tg, cap', hv, hc, hmx, hgl, hxx⟩
        ·omega
        simp only [Value.slice.injEq] at hv
        obtain ⟨rfl, _, rfl⟩ := hv
        have key : ∀ i, i < 4 → wr.cell? ⟨tg, k * 4 + i, none⟩ = (rtcells yts[k])[i]? := fun i hi => by
         rw [hb.cell (p := ⟨tg, k * 4 + i, none⟩) hgl, hxx _ (by omega)]
         exact flat_at rtcells 4 (fun _ => rfl) yts k i hkt hi
        have t0 := key 0 (by omega)
        have t1 := key 1 (by omega)
        have t2 := key 2 (by omega)
        have t3 := key 3 (by omega)
        have hwt := HYT.out yts[k] (List.getElem_mem hkt)
        have HTT : Hid (tOuts false (yts.take (k + 1)) = tOuts false (yts.take k) ++ (if false = false ∧ yts.take k = [] then [] else [44]) ++ testOut yts[k]) := hide (by rw [List.take_succ_eq_append_getElem hkt, tOuts_snoc])
        have HE : Hid (yts.take k = [] ↔ k = 0) := hide (by rw [List.take_eq_nil_iff]; constructor
                                                            · rintro (h | h)
                                                              · exact h
                                                              · rw [h] at hkt; simp at hkt
                                                            · exact Or.inl)
        have hkc : (k : Int) < yts.length := by omega
        have hkcap : (k : Int) < yc := by omega
        generalize yts[k] = t at *
        simp only [rtcells, List.getElem?_cons_zero, List.getElem?_cons_succ, Nat.add_zero] at t0 t1 t2 t3
        have hol := testOut_len hwt
        have HWT := hide hwt
        obtain ⟨d4, hd4⟩ : ∃ d : ByteArray, (⟨(testOut t).toArray⟩ : ByteArray) = d := ⟨_, rfl⟩
        have hs4' : d4.size ≤ 1018 := by rw [← hd4]; show (testOut t).toArray.size ≤ 1018; rw [List.size_toArray]; exact hol
        have HD4 : Hid (d4.data.toList = testOut t) := hide (by rw [← hd4])
        have E4 := hide hd4
        clear key hxx hb hc hmx hgl hwt hd4
        by_cases h0 : k = 0
        ·have HH := hide h0
         have h0b : ¬ (0 : Int) < (k : Int) := by omega
         clear h0
         go_wp2_with fail
         refine (rtestOut_any t _ (uh HWT)).mono ?_
         rintro e w5 ⟨rfl, hb5⟩
         rw [uh E4]
         have HB5 := hide (below_after A3.out.2.2 hb5)
         clear hb5
         go_wp2_with fail
         go_roundg (yts.length - (k + 1))
         case measure => have := A3.out.1; omega
         case rel =>
          refine ⟨k + 1, _, by omega, rfl, by go_num, rfl, ?_, uh HB5⟩
          rw [uh HTT, if_pos ⟨trivial, (uh HE).2 (uh HH)⟩]
          simp [A3.out.2.1, uh HD4]
        ·have HH := hide h0
         have h0b : (0 : Int) < (k : Int) := by omega
         clear h0
         go_wp2_with fail
         refine (rtestOut_any t _ (uh HWT)).mono ?_
         rintro e w5 ⟨rfl, hb5⟩
         rw [uh E4]
         have HB5 := hide (below_after A3.out.2.2 hb5)
         clear hb5
         go_wp2_with fail
         go_roundg (yts.length - (k + 1))
         case measure => have := A3.out.1; omega
         case rel =>
          refine ⟨k + 1, _, by omega, rfl, by go_num, rfl, ?_, uh HB5⟩
          rw [uh HTT, if_neg (fun h => uh HH ((uh HE).1 h.2))]
          simp [A3.out.2.1, uh HD4]
       ·have hke : k = yts.length := by omega
        have HC3 : Hid (d3.data.toList = d2.data.toList ++ tOuts false yts) := hide (by have := A3.out.2.1; rw [hke, List.take_length] at this; exact this)
        have hkc : ¬ (k : Int) < yts.length := by omega
        obtain ⟨d4, hd4⟩ : ∃ d : ByteArray, (⟨(Lib.itoa ynum).toArray⟩ : ByteArray) = d := ⟨_, rfl⟩
        have hs4' : d4.size ≤ 8 := by rw [← hd4]; show (Lib.itoa ynum).toArray.size ≤ 8; rw [List.size_toArray]; exact itoa_len hnum.1 hnum.2
        have HD4 : Hid (d4.data.toList = Lib.itoa ynum) := hide (by rw [← hd4])
        have E4 := hide hd4
        have HB4 := hide hb
        clear hke hb hd4
        go_wp2_with fail
        refine (rdigits_any _ _ hnum.1 hnum.2).mono ?_
        rintro e w5 ⟨rfl, hb5⟩
        rw [uh E4]
        have HB5 := hide (below_after A.out.2.2 (below_after (uh HB4) hb5))
        clear hb5
        go_wp2_with fail
        go_roundg (it.rules.length - (l + 1))
        case measure => have := A.out.1; omega
        case rel =>
         refine ⟨l + 1, _, by omega, rfl, by go_num, rfl, ?_, uh HB5⟩
         rw [uh HT, uh HRU]
         simp [uh HC3, A.out.2.1, uh HD4]
     ·have hle : l = it.rules.length := by omega
      have HC2 : Hid (d2.data.toList = p1 ++ it.rules.flatMap ruleOut) := hide (by have := A.out.2.1; rw [hle, List.take_length] at this; exact this)
      have hjc : ¬ (l : Int) < it.rules.length := by omega
      have HB4 := hide hb
      clear hle hb
      go_wp2_with fail
      go_ret
      refine ⟨ret_str ?_, below_after (uh HB2) (uh HB4)⟩
      rw [uh HO]
      simp [uh HC2, ← uh HP1, ← uh HP0]
   | true =>
    have HM : Hid (marksOut 92 it.drops = [u8 92] ++ markOut it.drops 3) := hide (by unfold marksOut; rw [if_neg (by have := uh HDP; simpa using this.symm)])
    obtain ⟨d1, hd1⟩ : ∃ d : ByteArray, (⟨(markOut it.drops 3).toArray⟩ : ByteArray) = d := ⟨_, rfl⟩
    have hs1 : d1.size ≤ 3 := by rw [← hd1]; show (markOut it.drops 3).toArray.size ≤ 3; rw [List.size_toArray]; exact markOut_len _ _
    have HD1 : Hid (d1.data.toList = markOut it.drops 3) := hide (by rw [← hd1])
    have E1 := hide hd1
    clear hd1
    go_wp2_with fail
    refine (rletters_any it.drops _ hmk).mono ?_
    rintro e w3 ⟨rfl, hb3⟩
    rw [uh E1]
    have HX3 := hide ((uh HX2).below hb3)
    have HB3 := hide (below_after (uh HB2) hb3)
    have HR3 := hide ((hb3.block w.heap.size (lt_of_block (uh HR2))).trans (uh HR2))
    clear hb3 c0 c1 c2 c3 c4 c5 f0 f1 f2 f3 f4 f5
    go_wp2_with fail
    have hs2 : w.heap.size < w3.heap.size := lt_of_block (uh HR3)
    have c5 := (cells6 (uh HR3)).1.2.2.2.2.2
    obtain ⟨p1, hp1e⟩ : ∃ p : List UInt8, p0 ++ joinOut it.cols ++ [41] ++ marksOut 92 it.drops ++ [123] = p := ⟨_, rfl⟩
    have hpl1 : p1.length ≤ 20030 := by
     have h1 := joinOut_len hcl (uh HWC)
     have h2 := marksOut_len 92 it.drops
     rw [← hp1e]
     simp only [List.length_append, List.length_cons, List.length_nil]
     omega
    have HP1 := hide hp1e
    go_loopg [3, 5] it.rules.length (fun g sv i wr => ∃ (l : Nat) (d : ByteArray), l ≤ it.rules.length ∧ g = it.rules.length - l ∧ i = .int .i64 (l : Int) ∧ sv = .string d ∧ d.data.toList = p1 ++ (it.rules.take l).flatMap ruleOut ∧ Below w3.heap.size w3 wr)
    case atStart =>
     refine ⟨0, _, by omega, rfl, rfl, rfl, ?_, Below.refl _ _⟩
     rw [← hp1e, uh HM]
     simp [uh HC, uh HD1, u8_92]
    case round =>
     clear hp1e
     obtain ⟨l, d2, hl, hg, rfl, rfl, hd, hb⟩ := hrel
     have A : Aside (gk = it.rules.length - l ∧ d2.data.toList = p1 ++ (it.rules.take l).flatMap ruleOut ∧ Below w3.heap.size w3 wr) := ⟨hg, hd, hb⟩
     have hds2 : d2.size ≤ 1101200000 := by
      have h1 := rulesOut_len (it.rules.take l) (fun r hr => HWR.out r (List.mem_of_mem_take hr))
      have h2 : d2.data.toList.length = d2.size := by simp
      rw [← h2, hd, List.length_append]
      simp only [List.length_take] at h1
      omega
     have d5 := (hb.cell (p := ⟨w.heap.size, 5, none⟩) hs2).trans c5
     have hs3 : w.heap.size < wr.heap.size := Nat.lt_of_lt_of_le hs2 hb.size
     clear hg hd
     by_cases hlt : l < it.rules.length
     ·rcases (uh HX3).2.2.1 with ⟨h0, _⟩ | ⟨g, cap', hv, hc, hmx, hgl, hxx⟩
      ·simp only at h0; omega
      simp only [Value.slice.injEq] at hv
      obtain ⟨rfl, _, rfl⟩ := hv
      have hlz : l < (vs.zip it.rules).length := by rw [uh HZ]; exact hlt
      have key : ∀ i, i < 2 → wr.cell? ⟨g, l * 2 + i, none⟩ = (zcells (vs.zip it.rules)[l])[i]? := fun i hi => by
       rw [hb.cell (p := ⟨g, l * 2 + i, none⟩) hgl, hxx _ (by simp only; omega)]
       exact flat_at zcells 2 (fun _ => rfl) (vs.zip it.rules) l i hlz hi
      have k0 := key 0 (by omega)
      have k1 := key 1 (by omega)
      have hglr : g < wr.heap.size := Nat.lt_of_lt_of_le hgl hb.size
      have hy := ((uh HX3).2.2.2 (vs.zip it.rules)[l] (List.getElem_mem hlz)).below hb
      have hyw := HWR.out it.rules[l] (List.getElem_mem hlt)
      have HT : Hid ((it.rules.take (l + 1)).flatMap ruleOut = (it.rules.take l).flatMap ruleOut ++ ruleOut it.rules[l]) := hide (by rw [List.take_succ_eq_append_getElem hlt, List.flatMap_append]; simp)
      have he : (vs.zip it.rules)[l].2 = it.rules[l] := by rw [List.getElem_zip]
      rw [← he] at hyw HT
      generalize (vs.zip it.rules)[l] = y at *
      obtain ⟨yv, yts, ynum⟩ := y
      simp only [zcells, List.getElem?_cons_zero, List.getElem?_cons_succ, Nat.add_zero] at k0 k1 hy hyw HT
      obtain ⟨yo, yc, rfl⟩ := hy.form
      have hjc : (l : Int) < it.rules.length := by omega
      have hjcap : (l : Int) < rc := by simp only at hc; omega
      have HY := hide hy
      have hnum := hyw.num
      have htl := hyw.len
      simp only at hnum htl
      have HYT := hide hyw.tests
      have HRU : Hid (ruleOut ⟨yts, ynum⟩ = tOuts false yts ++ [61] ++ Lib.itoa ynum ++ [59]) := hide rfl
      clear key hxx hb hc hmx hgl hy he hyw
      obtain ⟨w4, hw4⟩ : ∃ w4, w4 = wr := ⟨_, rfl⟩
      subst hw4
      go_wp2_with fail
      go_loopg [3, 6] yts.length (fun g sv i wr => ∃ (k : Nat) (d3 : ByteArray), k ≤ yts.length ∧ g = yts.length - k ∧ i = .int .i64 (k : Int) ∧ sv = .string d3 ∧ d3.data.toList = d2.data.toList ++ tOuts false (yts.take k) ∧ Below w4.heap.size w4 wr)
      case atStart => exact ⟨0, d2, by omega, rfl, rfl, rfl, by simp [tOuts], Below.refl _ _⟩
      case round =>
       obtain ⟨k, d3, hk, hg3, rfl, rfl, hd3, hb⟩ := hrel
       have A3 : Aside (gk = yts.length - k ∧ d3.data.toList = d2.data.toList ++ tOuts false (yts.take k) ∧ Below w4.heap.size w4 wr) := ⟨hg3, hd3, hb⟩
       have hds3 : d3.size ≤ 1103000000 := by
        have h1 := tOuts_len false (yts.take k) (fun t ht => HYT.out t (List.mem_of_mem_take ht))
        have h2 : d3.data.toList.length = d3.size := by simp
        have h3 : d2.data.toList.length = d2.size := by simp
        rw [← h2, hd3, List.length_append, h3]
        simp only [List.length_take] at h1
        omega
       have d5' := (hb.cell (p := ⟨w.heap.size, 5, none⟩) hs3).trans d5
       have k0' := (hb.cell (p := ⟨g, l * 2, none⟩) hglr).trans k0
       have k1' := (hb.cell (p := ⟨g, l * 2 + 1, none⟩) hglr).trans k1
       have hs4 : w.heap.size < wr.heap.size := Nat.lt_of_lt_of_le hs3 hb.size
       clear hg3 hd3 d5 k0 k1
       by_cases hkt : k < yts.length
       ·rcases uh HY with ⟨h0, _⟩ | ⟨tg, cap', hv, hc, hmx, hgl, hxx⟩
        ·omega
        simp only [Value.slice.injEq] at hv
        obtain ⟨rfl, _, rfl⟩ := hv
        have key : ∀ i, i < 4 → wr.cell? ⟨tg, k * 4 + i, none⟩ = (rtcells yts[k])[i]? := fun i hi => by
         rw [hb.cell (p := ⟨tg, k * 4 + i, none⟩) hgl, hxx _ (by omega)]
         exact flat_at rtcells 4 (fun _ => rfl) yts k i hkt hi
        have t0 := key 0 (by omega)
        have t1 := key 1 (by omega)
        have t2 := key 2 (by omega)
        have t3 := key 3 (by omega)
        have hwt := HYT.out yts[k] (List.getElem_mem hkt)
        have HTT : Hid (tOuts false (yts.take (k + 1)) = tOuts false (yts.take k) ++ (if false = false ∧ yts.take k = [] then [] else [44]) ++ testOut yts[k]) := hide (by rw [List.take_succ_eq_append_getElem hkt, tOuts_snoc])
        have HE : Hid (yts.take k = [] ↔ k = 0) := hide (by rw [List.take_eq_nil_iff]; constructor
                                                            · rintro (h | h)
                                                              · exact h
                                                              · rw [h] at hkt; simp at hkt
                                                            · exact Or.inl)
        have hkc : (k : Int) < yts.length := by omega
        have hkcap : (k : Int) < yc := by omega
        generalize yts[k] = t at *
        simp only [rtcells, List.getElem?_cons_zero, List.getElem?_cons_succ, Nat.add_zero] at t0 t1 t2 t3
        have hol := testOut_len hwt
        have HWT := hide hwt
        obtain ⟨d4, hd4⟩ : ∃ d : ByteArray, (⟨(testOut t).toArray⟩ : ByteArray) = d := ⟨_, rfl⟩
        have hs4' : d4.size ≤ 1018 := by rw [← hd4]; show (testOut t).toArray.size ≤ 1018; rw [List.size_toArray]; exact hol
        have HD4 : Hid (d4.data.toList = testOut t) := hide (by rw [← hd4])
        have E4 := hide hd4
        clear key hxx hb hc hmx hgl hwt hd4
        by_cases h0 : k = 0
        ·have HH := hide h0
         have h0b : ¬ (0 : Int) < (k : Int) := by omega
         clear h0
         go_wp2_with fail
         refine (rtestOut_any t _ (uh HWT)).mono ?_
         rintro e w5 ⟨rfl, hb5⟩
         rw [uh E4]
         have HB5 := hide (below_after A3.out.2.2 hb5)
         clear hb5
         go_wp2_with fail
         go_roundg (yts.length - (k + 1))
         case measure => have := A3.out.1; omega
         case rel =>
          refine ⟨k + 1, _, by omega, rfl, by go_num, rfl, ?_, uh HB5⟩
          rw [uh HTT, if_pos ⟨trivial, (uh HE).2 (uh HH)⟩]
          simp [A3.out.2.1, uh HD4]
        ·have HH := hide h0
         have h0b : (0 : Int) < (k : Int) := by omega
         clear h0
         go_wp2_with fail
         refine (rtestOut_any t _ (uh HWT)).mono ?_
         rintro e w5 ⟨rfl, hb5⟩
         rw [uh E4]
         have HB5 := hide (below_after A3.out.2.2 hb5)
         clear hb5
         go_wp2_with fail
         go_roundg (yts.length - (k + 1))
         case measure => have := A3.out.1; omega
         case rel =>
          refine ⟨k + 1, _, by omega, rfl, by go_num, rfl, ?_, uh HB5⟩
          rw [uh HTT, if_neg (fun h => uh HH ((uh HE).1 h.2))]
          simp [A3.out.2.1, uh HD4]
       ·have hke : k = yts.length := by omega
        have HC3 : Hid (d3.data.toList = d2.data.toList ++ tOuts false yts) := hide (by have := A3.out.2.1; rw [hke, List.take_length] at this; exact this)
        have hkc : ¬ (k : Int) < yts.length := by omega
        obtain ⟨d4, hd4⟩ : ∃ d : ByteArray, (⟨(Lib.itoa ynum).toArray⟩ : ByteArray) = d := ⟨_, rfl⟩
        have hs4' : d4.size ≤ 8 := by rw [← hd4]; show (Lib.itoa ynum).toArray.size ≤ 8; rw [List.size_toArray]; exact itoa_len hnum.1 hnum.2
        have HD4 : Hid (d4.data.toList = Lib.itoa ynum) := hide (by rw [← hd4])
        have E4 := hide hd4
        have HB4 := hide hb
        clear hke hb hd4
        go_wp2_with fail
        refine (rdigits_any _ _ hnum.1 hnum.2).mono ?_
        rintro e w5 ⟨rfl, hb5⟩
        rw [uh E4]
        have HB5 := hide (below_after A.out.2.2 (below_after (uh HB4) hb5))
        clear hb5
        go_wp2_with fail
        go_roundg (it.rules.length - (l + 1))
        case measure => have := A.out.1; omega
        case rel =>
         refine ⟨l + 1, _, by omega, rfl, by go_num, rfl, ?_, uh HB5⟩
         rw [uh HT, uh HRU]
         simp [uh HC3, A.out.2.1, uh HD4]
     ·have hle : l = it.rules.length := by omega
      have HC2 : Hid (d2.data.toList = p1 ++ it.rules.flatMap ruleOut) := hide (by have := A.out.2.1; rw [hle, List.take_length] at this; exact this)
      have hjc : ¬ (l : Int) < it.rules.length := by omega
      have HB4 := hide hb
      clear hle hb
      go_wp2_with fail
      go_ret
      refine ⟨ret_str ?_, below_after (uh HB3) (uh HB4)⟩
      rw [uh HO]
      simp [uh HC2, ← uh HP1, ← uh HP0]
end Go.Proofs.YthnggjaecngbiaaGreatDoor
