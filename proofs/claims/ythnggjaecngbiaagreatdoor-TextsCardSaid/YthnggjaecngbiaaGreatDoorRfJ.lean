import Derived.Test.YthnggjaecngbiaaGreatDoorRfIA
import Derived.Test.YthnggjaecngbiaaGreatDoorRfG
import Derived.Test.YthnggjaecngbiaaGreatDoorCkE
namespace Go.Proofs.YthnggjaecngbiaaGreatDoor
open Go.RowKit
theorem rtable_any (b : Nat) (s : ByteArray) (k : Nat) (far : Bool) (w : World) (hr : RR b s k false far w) (hs : s.size ≤ 1000) (hk : k ≤ s.size) (hb : nextP s k = k) :
  Calls Tryz.prog 110 #[.pointer (some ⟨b, 0, none⟩)] w fun e w' => (∃ p, tableR s k = .inl p ∧ (∃ nm mk po dr co cn cc ro rn rc, e = .returned (.agg #[.string nm, .int .i64 mk, .int .u8 po, .bool dr, .slice co cn cc, .slice ro rn rc])) ∧ Mv b w w' ∧ ∃ far', RR b s p true far' w') ∨ (∃ it q, tableR s k = .inr (it, q) ∧ ∃ co cn cc ro rn rc vs, e = .returned (.agg (ricells it (.slice co cn cc) (.slice ro rn rc))) ∧ Mv b w w' ∧ RR b s (nextP s q) false (far || farItem it) w' ∧ RItemAt w.heap.size w' ⟨it, .slice co cn cc, .slice ro rn rc, vs⟩) := by
 cases hn : nameR s k with
 | inl p => exact rtable_no b s k far w hr hs hk hb hn
 | inr xq =>
  obtain ⟨x, q⟩ := xq
  cases hpol : isPol (byteAt s (nextP s q)) with
  | false => exact rtable_pol b s k far w hr hs hk hb hn hpol
  | true =>
   exact rtable_letter (byteAt s (nextP s q)) (isPol_cases hpol) b s k far w hr hs hk hb hn rfl
end Go.Proofs.YthnggjaecngbiaaGreatDoor
namespace Go.Proofs.YthnggjaecngbiaaGreatDoor
open Go.RowKit
def ritCells (x : LItem) : List Value := (ricells x.it x.cv x.rv).toList
def RItemV (w : World) (x : LItem) : Prop := x.vs.length = x.it.rules.length ∧ SlAt w 1 x.cv x.it.cols.length (x.it.cols.map Value.string) ∧ SlAt w 2 x.rv x.it.rules.length (rcells x.vs x.it.rules) ∧ ∀ t ∈ x.vs.zip x.it.rules, SlAt w 4 t.1 t.2.tests.length (rtsCells t.2.tests)
def RItemsV (w : World) (v : Value) (xs : List LItem) : Prop := SlAt w 6 v xs.length (xs.flatMap ritCells) ∧ ∀ x ∈ xs, RItemV w x
theorem RItemV.below {w w' : World} {x : LItem} (h : RItemV w x) (g : Below w.heap.size w w') : RItemV w' x := ⟨h.1, h.2.1.below g, h.2.2.1.below g, fun t ht => (h.2.2.2 t ht).below g⟩
theorem RItemsV.below {w w' : World} {v : Value} {xs : List LItem} (h : RItemsV w v xs) (g : Below w.heap.size w w') : RItemsV w' v xs := ⟨h.1.below g, fun x hx => (h.2 x hx).below g⟩
theorem RItemV.of_at {w : World} {base : Nat} {x : LItem} (h : RItemAt base w x) : RItemV w x :=
 ⟨h.1, SlAt.of_owns h.2.co, SlAt.of_owns h.2.ru, fun t ht => SlAt.of_owns (h.2.te (t.1, t.2.tests.length, rtsCells t.2.tests) (by unfold tlOf; exact List.mem_map.2 ⟨t, ht, rfl⟩))⟩
theorem below_drewN (w : World) (n : Nat) : Below w.heap.size w (w.drewN n) := ⟨rfl, rfl, rfl, Nat.le_refl _, fun _ _ => rfl⟩
set_option maxRecDepth 100000 in
set_option maxHeartbeats 1600000 in
theorem rfind_any (v : Value) (xs : List LItem) (nm : ByteArray) (w : World) (hv : RItemsV w v xs) (hl : xs.length ≤ 100000) :
  Calls Tryz.prog 78 #[v, .string nm] w fun e w' => (∃ n : Int, e = .returned (.int .i64 n) ∧ namedP (xs.map LItem.it) nm = decide (0 ≤ n)) ∧ Below w.heap.size w w' := by
 obtain ⟨ao, cap, rfl⟩ := hv.1.form
 have HV := hide hv
 clear hv
 go_enter Tryz.func78, Tryz.ntmps78
 go_wp2_with fail
 go_loopg [5] xs.length (fun g i wr => ∃ j : Nat, j ≤ xs.length ∧ g = xs.length - j ∧ i = .int .i64 (j : Int) ∧ (xs.take j).any (fun x => sameName x.it.name nm) = false ∧ Below w.heap.size w wr)
 case atStart => exact ⟨0, by omega, rfl, rfl, by simp, Below.refl _ _⟩
 case round =>
  obtain ⟨j, hj, hg, rfl, hno, hb⟩ := hrel
  have A : Aside (gk = xs.length - j ∧ (xs.take j).any (fun x => sameName x.it.name nm) = false ∧ Below w.heap.size w wr) := ⟨hg, hno, hb⟩
  clear hg hno
  by_cases hlt : j < xs.length
  ·rcases (uh HV).1 with ⟨h0, _⟩ | ⟨g, cap', hv, hc, hm, hgl, hx⟩
   ·omega
   simp only [Value.slice.injEq] at hv
   obtain ⟨rfl, _, rfl⟩ := hv
   have key : ∀ i, i < 6 → wr.cell? ⟨g, j * 6 + i, none⟩ = (ritCells xs[j])[i]? := fun i hi => by
    rw [hb.cell (p := ⟨g, j * 6 + i, none⟩) hgl, hx _ (by omega)]
    exact flat_at ritCells 6 (fun _ => rfl) xs j i hlt hi
   have k0 := key 0 (by omega)
   simp only [ritCells, ricells, List.getElem?_cons_zero, Nat.add_zero] at k0
   have HT := hide (any_take_succ (fun x => sameName x.it.name nm) xs j hlt)
   have hjc : (j : Int) < xs.length := by omega
   have hjcap : (j : Int) < cap := by omega
   generalize xs[j] = x at *
   clear key hx hb hc hgl
   cases hp : sameName x.it.name nm with
   | true =>
    have hp2 : (x.it.name.toList == nm.toList) = true := hp
    have HP := hide hp
    clear hp
    go_wp2_with fail
    go_ret
    refine ⟨⟨(j : Int), rfl, ?_⟩, A.out.2.2⟩
    have : xs.any (fun x => sameName x.it.name nm) = true := any_of_take (j := j + 1) (by rw [uh HT, A.out.2.1, uh HP]; rfl)
    unfold namedP
    rw [List.any_map]
    simp only [Function.comp_def]
    rw [this]; simp
   | false =>
    have hp2 : (x.it.name.toList == nm.toList) = false := hp
    have HP := hide hp
    clear hp
    go_wp2_with fail
    go_roundg (xs.length - (j + 1))
    case measure => have := A.out.1; omega
    case rel => exact ⟨j + 1, by omega, rfl, by go_num, by rw [uh HT, A.out.2.1, uh HP]; rfl, A.out.2.2⟩
  ·have hje : j = xs.length := by omega
   have hjc : ¬ (j : Int) < xs.length := by omega
   have HE : Hid (xs.any (fun x => sameName x.it.name nm) = false) := hide (by have := A.out.2.1; rw [hje, List.take_length] at this; exact this)
   clear hje hb
   go_wp2_with fail
   go_ret
   refine ⟨⟨-1, rfl, ?_⟩, A.out.2.2⟩
   unfold namedP
   rw [List.any_map]
   simp only [Function.comp_def]
   rw [uh HE]; rfl
end Go.Proofs.YthnggjaecngbiaaGreatDoor
namespace Go.Proofs.YthnggjaecngbiaaGreatDoor
open Go.RowKit
theorem cells6 {w : World} {N : Nat} {c0 c1 c2 c3 c4 c5 : Value} {T : TypeId} (h : w.heap[N]? = some (.cells #[c0, c1, c2, c3, c4, c5] T)) :
  (w.cell? ⟨N, 0, none⟩ = some c0 ∧ w.cell? ⟨N, 1, none⟩ = some c1 ∧ w.cell? ⟨N, 2, none⟩ = some c2 ∧ w.cell? ⟨N, 3, none⟩ = some c3 ∧ w.cell? ⟨N, 4, none⟩ = some c4 ∧ w.cell? ⟨N, 5, none⟩ = some c5) ∧
  w.frozen? ⟨N, 0, none⟩ = false ∧ w.frozen? ⟨N, 1, none⟩ = false ∧ w.frozen? ⟨N, 2, none⟩ = false ∧ w.frozen? ⟨N, 3, none⟩ = false ∧ w.frozen? ⟨N, 4, none⟩ = false ∧ w.frozen? ⟨N, 5, none⟩ = false := by
 simp [World.cell?, World.frozen?, h]
set_option maxRecDepth 100000 in
set_option maxHeartbeats 3200000 in
theorem rwrong_any (x : LItem) (v : Value) (xs : List LItem) (w : World) (hx : RItemV w x) (hsx : SmallI x.it) (hv : RItemsV w v xs) (hl : xs.length ≤ 100000) :
  Calls Tryz.prog 111 #[v, .agg (ricells x.it x.cv x.rv)] w fun e w' => e = .returned (.int .i64 (checkItemP x.it (xs.map LItem.it))) ∧ Below w.heap.size w w' := by
 obtain ⟨it, cv, rv0, vs⟩ := x
 obtain ⟨co, cc, hcv⟩ := hx.2.1.form
 obtain ⟨ro, rc, hrv⟩ := hx.2.2.1.form
 simp only at hcv hrv
 subst hcv hrv
 obtain ⟨hl1, hl2, hl3⟩ := hsx
 simp only at hl1 hl2 hl3
 have HL3 := hide hl3
 clear hl3
 have hb0 : Below w.heap.size w (w.alloc (.cells (ricells it (.slice co it.cols.length cc) (.slice ro it.rules.length rc)) 141)) := (Below.refl _ w).alloc (Nat.le_refl _) _
 have HV := hide (hv.below hb0)
 have HX := hide (hx.below hb0)
 have hr0 := alloc_last w (.cells (ricells it (.slice co it.cols.length cc) (.slice ro it.rules.length rc)) 141)
 have HB0 := hide hb0
 have HR0 := hide hr0
 have hsz : w.heap.size < (w.alloc (.cells (ricells it (.slice co it.cols.length cc) (.slice ro it.rules.length rc)) 141)).heap.size := by simp
 have HSZ := hide hsz
 clear hv hx hb0 hr0 hsz
 simp only
 cases h1 : namedP (xs.map LItem.it) it.name with
 | true =>
  have HF : Hid (checkItemP it (xs.map LItem.it) = 3) := hide (by unfold checkItemP; rw [if_pos h1])
  have H1 := hide h1
  clear h1
  simp only [ricells] at HV HX HB0 HR0 HSZ ⊢
  go_enter Tryz.func111, Tryz.ntmps111
  go_wp2_with fail
  refine (rfind_any _ xs _ _ (by exact uh HV) hl).mono ?_
  rintro e w1 ⟨⟨nn, rfl, hnn⟩, hb⟩
  rw [uh H1] at hnn
  have hnn2 : decide (0 ≤ nn) = true := hnn.symm
  have HB := hide hb
  clear hb hnn
  go_wp2_with fail
  go_ret
  exact ⟨by rw [uh HF]; rfl, below_after (uh HB0) (uh HB)⟩
 | false =>
  have H1 := hide h1
  clear h1
  simp only [ricells] at HV HX HB0 HR0 HSZ ⊢
  go_enter Tryz.func111, Tryz.ntmps111
  go_wp2_with fail
  refine (rfind_any _ xs _ _ (uh HV) hl).mono ?_
  rintro e w1 ⟨⟨nn, rfl, hnn⟩, hb⟩
  rw [uh H1] at hnn
  have hnn2 : decide (0 ≤ nn) = false := hnn.symm
  clear hnn
  have hr1 := (hb.block w.heap.size (uh HSZ)).trans (uh HR0)
  have HV1 := hide ((uh HV).below hb)
  have HX1 := hide ((uh HX).below hb)
  have HB1 := hide (below_after (uh HB0) hb)
  have HR1 := hide hr1
  have hs1 : w.heap.size < w1.heap.size := lt_of_block hr1
  obtain ⟨⟨c0, c1, c2, c3, c4, c5⟩, f0, f1, f2, f3, f4, f5⟩ := cells6 hr1
  clear hb hr1 HV HX HB0 HR0 HSZ
  go_wp2_with fail
  clear c0 c1 c2 c3 c5 f0 f1 f2 f3 f4 f5
  go_loopg [6] it.cols.length (fun g i wr => ∃ j : Nat, j ≤ it.cols.length ∧ g = it.cols.length - j ∧ i = .int .i64 (j : Int) ∧ (it.cols.take j).any (fun c => !namedP (xs.map LItem.it) c) = false ∧ Below w1.heap.size w1 wr)
  case atStart => exact ⟨0, by omega, rfl, rfl, by simp, Below.refl _ _⟩
  case round =>
   obtain ⟨j, hj, hg, rfl, hno, hb⟩ := hrel
   have A : Aside (gk = it.cols.length - j ∧ (it.cols.take j).any (fun c => !namedP (xs.map LItem.it) c) = false ∧ Below w1.heap.size w1 wr) := ⟨hg, hno, hb⟩
   have d4 := (hb.cell (p := ⟨w.heap.size, 4, none⟩) hs1).trans c4
   have hs3 : w.heap.size < wr.heap.size := Nat.lt_of_lt_of_le hs1 hb.size
   clear hg hno
   by_cases hlt : j < it.cols.length
   ·rcases (uh HX1).2.1 with ⟨h0, _⟩ | ⟨g, cap', hv, hc, hm, hgl, hx⟩
    ·simp only at h0; omega
    simp only [Value.slice.injEq] at hv
    obtain ⟨rfl, _, rfl⟩ := hv
    have k0 : wr.cell? ⟨g, j, none⟩ = some (.string it.cols[j]) := by
     rw [hb.cell (p := ⟨g, j, none⟩) hgl, hx j (by simp; omega)]
     simp [hlt]
    have HT := hide (any_take_succ (fun c => !namedP (xs.map LItem.it) c) it.cols j hlt)
    have hjc : (j : Int) < it.cols.length := by omega
    have hjcap : (j : Int) < cc := by simp only at hc; omega
    generalize it.cols[j] = col at *
    clear hx hb hc hm hgl
    cases hp : namedP (xs.map LItem.it) col with
    | false =>
     have HP := hide hp
     clear hp
     go_wp2_with fail
     refine (rfind_any _ xs _ _ (by exact (uh HV1).below A.out.2.2) hl).mono ?_
     rintro e w2 ⟨⟨n2, rfl, hn2⟩, hb2⟩
     rw [uh HP] at hn2
     have hn3 : decide (n2 < 0) = true := by have := hn2.symm; simp at this ⊢; omega
     have HB2 := hide (below_after A.out.2.2 hb2)
     clear hb2 hn2
     go_wp2_with fail
     go_ret
     refine ⟨?_, below_after (uh HB1) (uh HB2)⟩
     have : checkItemP it (xs.map LItem.it) = 4 := by
      unfold checkItemP
      rw [if_neg (by rw [uh H1]; simp), if_pos (any_of_take (j := j + 1) (by rw [uh HT, A.out.2.1, uh HP]; rfl))]
     rw [this]; rfl
    | true =>
     have HP := hide hp
     clear hp
     go_wp2_with fail
     refine (rfind_any _ xs _ _ (by exact (uh HV1).below A.out.2.2) hl).mono ?_
     rintro e w2 ⟨⟨n2, rfl, hn2⟩, hb2⟩
     rw [uh HP] at hn2
     have hn3 : decide (n2 < 0) = false := by have := hn2.symm; simp at this ⊢; omega
     have HB2 := hide (below_after A.out.2.2 hb2)
     clear hb2 hn2
     go_wp2_with fail
     go_roundg (it.cols.length - (j + 1))
     case measure => have := A.out.1; omega
     case rel => exact ⟨j + 1, by omega, rfl, by go_num, by rw [uh HT, A.out.2.1, uh HP]; rfl, uh HB2⟩
   ·have hje : j = it.cols.length := by omega
    have HC : Hid (it.cols.any (fun c => !namedP (xs.map LItem.it) c) = false) := hide (by have := A.out.2.1; rw [hje, List.take_length] at this; exact this)
    have hjc : ¬ (j : Int) < it.cols.length := by omega
    have hr2 := (hb.block w.heap.size hs1).trans (uh HR1)
    have HX2 := hide ((uh HX1).below hb)
    have HB2 := hide (below_after (uh HB1) hb)
    have hs2 : w.heap.size < wr.heap.size := lt_of_block hr2
    clear d4 c4
    obtain ⟨⟨c0, c1, c2, c3, c4, c5⟩, f0, f1, f2, f3, f4, f5⟩ := cells6 hr2
    clear hje hb hr2
    clear c0 c1 c2 c3 f0 f1 f2 f3 f4 f5
    obtain ⟨w2, hw2⟩ : ∃ w2, w2 = wr := ⟨_, rfl⟩
    subst hw2
    go_wp2_with fail
    clear A HX1 HB1 HR1 HV1 hlt hj hs3
    have hz : (vs.zip it.rules).length = it.rules.length := by have := (uh HX2).1; simp at this ⊢; omega
    have HZ := hide hz
    clear hz
    go_loopg [8] it.rules.length (fun g i wr => ∃ l : Nat, l ≤ it.rules.length ∧ g = it.rules.length - l ∧ i = .int .i64 (l : Int) ∧ (it.rules.take l).any (fun r => decide (r.tests.length ≠ it.cols.length)) = false ∧ Below w2.heap.size w2 wr)
    case atStart => exact ⟨0, by omega, rfl, rfl, by simp, Below.refl _ _⟩
    case round =>
     obtain ⟨l, hj, hg, rfl, hno, hb⟩ := hrel
     have A : Aside (gk = it.rules.length - l ∧ (it.rules.take l).any (fun r => decide (r.tests.length ≠ it.cols.length)) = false ∧ Below w2.heap.size w2 wr) := ⟨hg, hno, hb⟩
     clear hg hno
     have d4 := (hb.cell (p := ⟨w.heap.size, 4, none⟩) hs2).trans c4
     have d5 := (hb.cell (p := ⟨w.heap.size, 5, none⟩) hs2).trans c5
     have hs3 : w.heap.size < wr.heap.size := Nat.lt_of_lt_of_le hs2 hb.size
     by_cases hlt : l < it.rules.length
     ·rcases (uh HX2).2.2.1 with ⟨h0, _⟩ | ⟨g, cap', hv, hc, hm, hgl, hx⟩
      ·simp only at h0; omega
      simp only [Value.slice.injEq] at hv
      obtain ⟨rfl, _, rfl⟩ := hv
      have hlz : l < (vs.zip it.rules).length := by rw [uh HZ]; exact hlt
      have key : ∀ i, i < 2 → wr.cell? ⟨g, l * 2 + i, none⟩ = (zcells (vs.zip it.rules)[l])[i]? := fun i hi => by
       rw [hb.cell (p := ⟨g, l * 2 + i, none⟩) hgl, hx _ (by simp only; omega)]
       exact flat_at zcells 2 (fun _ => rfl) (vs.zip it.rules) l i hlz hi
      have k0 := key 0 (by omega)
      have HT := hide (any_take_succ (fun r : PRule => decide (r.tests.length ≠ it.cols.length)) it.rules l hlt)
      have hy := (uh HX2).2.2.2 (vs.zip it.rules)[l] (List.getElem_mem hlz)
      have hyl := HL3.out it.rules[l] (List.getElem_mem hlt)
      have he : (vs.zip it.rules)[l].2 = it.rules[l] := by rw [List.getElem_zip]
      have hlr : l < it.rules.length := hlt
      rw [← he] at hyl HT
      generalize (vs.zip it.rules)[l] = y at *
      obtain ⟨yv, yts, ynum⟩ := y
      simp only [zcells, List.getElem?_cons_zero, Nat.add_zero] at k0 hy hyl HT
      obtain ⟨yo, yc, rfl⟩ := hy.form
      have hjc : (l : Int) < it.rules.length := by omega
      clear key hx hb hc hm hgl hy he
      by_cases hp : yts.length = it.cols.length
      ·have hpb : ((yts.length : Int) != it.cols.length) = false := by simp; omega
       have HP : Hid (decide (yts.length ≠ it.cols.length) = false) := hide (by simpa using hp)
       clear hp
       go_wp2_with fail
       go_quiet (fail)
       go_wp2_with fail
       go_roundg (it.rules.length - (l + 1))
       case measure => have := A.out.1; omega
       case rel => exact ⟨l + 1, by omega, rfl, by go_num, by rw [uh HT, A.out.2.1]; exact uh HP, below_after A.out.2.2 (below_drewN _ _)⟩
      ·have hpb : ((yts.length : Int) != it.cols.length) = true := by simp; omega
       have HP : Hid (decide (yts.length ≠ it.cols.length) = true) := hide (by simpa using hp)
       clear hp
       go_wp2_with fail
       go_quiet (fail)
       go_wp2_with fail
       go_ret
       refine ⟨?_, below_after (uh HB2) (below_after A.out.2.2 (below_drewN _ _))⟩
       have : checkItemP it (xs.map LItem.it) = 5 := by
        unfold checkItemP
        rw [if_neg (by rw [uh H1]; simp), if_neg (by rw [uh HC]; simp), if_pos (any_of_take (j := l + 1) (by rw [uh HT, A.out.2.1]; exact uh HP))]
       rw [this]; rfl
     ·have hje : l = it.rules.length := by omega
      have HJ := hide hje
      have hjc : ¬ (l : Int) < it.rules.length := by omega
      clear hje hb
      go_wp2
      go_ret
      refine ⟨?_, below_after (uh HB2) A.out.2.2⟩
      have : checkItemP it (xs.map LItem.it) = 0 := by
       have h5 := A.out.2.1
       rw [uh HJ, List.take_length] at h5
       unfold checkItemP
       rw [if_neg (by rw [uh H1]; simp), if_neg (by rw [uh HC]; simp), if_neg (by rw [h5]; simp)]
      rw [this]; rfl
end Go.Proofs.YthnggjaecngbiaaGreatDoor
