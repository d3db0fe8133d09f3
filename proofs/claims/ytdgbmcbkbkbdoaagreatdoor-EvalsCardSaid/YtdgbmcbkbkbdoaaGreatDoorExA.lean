import Derived.Test.YtdgbmcbkbkbdoaaGreatDoorEvG
import Derived.Test.YtdgbmcbkbkbdoaaGreatDoorFtA
import Derived.Test.YtdgbmcbkbkbdoaaGreatDoorPlD
namespace Go.Proofs.YtdgbmcbkbkbdoaaGreatDoor
open Go.RowKit
theorem owns_kept {W0 : World} {b : Nat} {l : List UInt8} {w w' : World} {base : Nat} {e : TypeId} {size : Nat} {v : Value} {n : Nat} {xs : List Value} (hw : WInv W0 b l w) (g : Lib.OthersKept 5 (some b) w w') (he : e ≠ 5) (he2 : e ≠ 111) (h : w.ownsRow base e size v n xs) : w'.ownsRow base e size v n xs :=
 owns_keep h (fun gg c _ hg => by
  have hne : gg ≠ b := fun eq => by
   subst eq
   rcases hw.bd with ⟨_, v', hb, _⟩ | ⟨_, v', hb, _⟩
   ·rw [hb] at hg; simp at hg; exact he2 hg.2.symm
   ·rw [hb] at hg; simp at hg; exact he2 hg.2.symm
  rw [hg]
  exact g gg _ hg (fun e' => hne (by simpa using e')) (fun c' fz e' => by simp at e'; exact he e'.2.1))
set_option maxRecDepth 100000 in
set_option maxHeartbeats 800000 in
theorem valueText_any (p : PVal) (w : World) (h : -9999999 ≤ p.n) (h' : p.n ≤ 9999999) (ht : Tab w) :
  Calls Tryz.prog 92 #[.agg #[.int .i64 p.kind, .int .i64 p.n]] w fun e w' => e = .returned (.string ⟨(shownOut p).toArray⟩) ∧ Below w.heap.size w w' := by
 obtain ⟨k, n⟩ := p
 simp only at h h' ⊢
 have hb0 : Below w.heap.size w (w.alloc (.cells #[.int .i64 k, .int .i64 n] 51)) := (Below.refl _ w).alloc (Nat.le_refl _) _
 have HT := hide (tab_below hb0 ht)
 have HB0 := hide hb0
 clear ht hb0
 by_cases h1 : k = 1
 ·subst h1
  go_enter Tryz.func92, Tryz.ntmps92
  go_wp2
  go_ret
  exact ⟨by simp [shownOut], uh HB0⟩
 have g1 : (k == 1) = false := by simpa using h1
 by_cases h2 : k = 2
 ·subst h2
  clear h1 g1
  go_enter Tryz.func92, Tryz.ntmps92
  go_wp2
  go_ret
  exact ⟨by simp [shownOut], uh HB0⟩
 have g2 : (k == 2) = false := by simpa using h2
 have HS : Hid (shownOut ⟨k, n⟩ = Lib.itoa n) := hide (by simp [shownOut, h1, h2])
 clear h1 h2
 go_enter Tryz.func92, Tryz.ntmps92
 go_wp2_with fail
 refine (itoa_any _ _ h h' (uh HT)).mono ?_
 rintro e wc ⟨rfl, hbc⟩
 have HB1 := hide (below_after (uh HB0) hbc)
 clear hbc
 go_wp2
 go_ret
 refine ⟨?_, uh HB1⟩
 rw [uh HS]
 rfl
theorem rulesTold_snoc (b : Bool) : ∀ (l : List Nat) (i : Nat), rulesTold b (l ++ [i]) = rulesTold b l ++ (if b = false ∧ l = [] then [] else [32]) ++ Lib.itoa ((i : Int) + 1) := by
 intro l
 induction l generalizing b with
 | nil => intro i; cases b <;> simp [rulesTold]
 | cons x l ih =>
  intro i
  cases b
  ·rw [List.cons_append, rulesTold, ih true i, rulesTold]; simp
  ·rw [List.cons_append, rulesTold, ih true i, rulesTold]; simp
theorem rulesTold_len (b : Bool) (l : List Nat) (h : ∀ i ∈ l, i ≤ 1000) : (rulesTold b l).length ≤ l.length * 10 := by
 induction l generalizing b with
 | nil => simp [rulesTold]
 | cons x l ih =>
  have h1 := ih true (fun i hi => h i (by simp [hi]))
  have h2 := h x (by simp)
  have h3 := itoa_len (n := (x : Int) + 1) (by omega) (by omega)
  cases b <;> simp [rulesTold] <;> omega
set_option maxRecDepth 100000 in
set_option maxHeartbeats 1600000 in
theorem writeRules_any {W0 : World} {b : Nat} {l : List UInt8} {w : World} (v : Value) (ms : List Nat) (h : WInv W0 b l w) (hl : l.length ≤ 100000000) (ht : Tab W0) (hv : w.ownsRow W0.heap.size 3 1 v ms.length (nats ms)) (hml : ms.length ≤ 1000) (hms : ∀ i ∈ ms, i ≤ 1000) :
  Calls Tryz.prog 93 #[.pointer (some ⟨b, 0, none⟩), v] w fun e w' => e = .returned (.tuple #[]) ∧ WInv W0 b (l ++ [91] ++ rulesTold false ms ++ [93]) w' ∧ Lib.OthersKept 5 (some b) w w' := by
 obtain ⟨mo, mc, rfl⟩ := (SlAt.of_owns hv).form
 have HW := hide h
 have HV := hide hv
 have HT := hide ht
 have HMS := hide hms
 clear h hv ht hms
 go_enter Tryz.func93, Tryz.ntmps93
 go_wp2_with fail
 refine (wb_any _ (uh HW) (by omega) (by simp) (by simp)).mono ?_
 rintro e w1 ⟨rfl, hw1, ho1⟩
 have HW1 := hide hw1
 have HO1 := hide ho1
 have HV1 := hide (owns_kept (uh HW) ho1 (by decide) (by decide) (uh HV))
 clear hw1 ho1
 go_wp2_with fail
 go_loopg [10] ms.length (fun g i wr => ∃ j : Nat, j ≤ ms.length ∧ g = ms.length - j ∧ i = .int .i64 (j : Int) ∧ WInv W0 b (l ++ [91] ++ rulesTold false (ms.take j)) wr ∧ Lib.OthersKept 5 (some b) w wr ∧ wr.ownsRow W0.heap.size 3 1 (.slice mo ms.length mc) ms.length (nats ms))
 case atStart => exact ⟨0, by omega, rfl, rfl, by simpa [rulesTold, u8] using uh HW1, uh HO1, uh HV1⟩
 case round =>
  obtain ⟨j, hj, hg, rfl, hwi, hok, hown⟩ := hrel
  have A : Aside (gk = ms.length - j ∧ WInv W0 b (l ++ [91] ++ rulesTold false (ms.take j)) wr ∧ Lib.OthersKept 5 (some b) w wr ∧ wr.ownsRow W0.heap.size 3 1 (.slice mo ms.length mc) ms.length (nats ms)) := ⟨hg, hwi, hok, hown⟩
  have hrl := rulesTold_len false (ms.take j) (fun i hi => uh HMS i (List.mem_of_mem_take hi))
  rw [List.length_take] at hrl
  clear hg
  by_cases hlt : j < ms.length
  ·rcases SlAt.of_owns hown with ⟨h0, _⟩ | ⟨g, cap', hv, hc, hm, hgl, hx⟩
   ·omega
   simp only [Value.slice.injEq] at hv
   obtain ⟨rfl, _, rfl⟩ := hv
   have k0 : wr.cell? ⟨g, j, none⟩ = some (.int .i64 (ms[j] : Int)) := by
    rw [hx j (by omega)]
    simp [nats, hlt]
   have hjc : (j : Int) < ms.length := by omega
   have hst : rulesTold false (ms.take (j + 1)) = rulesTold false (ms.take j) ++ (if j = 0 then [] else [32]) ++ Lib.itoa ((ms[j] : Int) + 1) := by
    rw [List.take_succ_eq_append_getElem hlt, rulesTold_snoc]
    congr 2
    by_cases hz : j = 0
    ·subst hz; simp
    ·have : ms.take j ≠ [] := fun e => by have h9 := congrArg List.length e; rw [List.length_take, List.length_nil] at h9; omega
     simp [hz, this]
   have hb := uh HMS ms[j] (List.getElem_mem hlt)
   generalize ms[j] = p at *
   have HST := hide hst
   have hil := itoa_len (n := (p : Int) + 1) (by omega) (by omega)
   clear hx hc hm hgl hwi hok hown hst
   by_cases hz : j = 0
   ·subst hz
    go_wp2_with fail
    refine (itoa_any _ _ (by omega) (by omega) (tab_below A.out.2.1.bl (uh HT))).mono ?_
    rintro e w2 ⟨rfl, hb2⟩
    have HW2 := hide (A.out.2.1.below hb2)
    have HO2 := hide (A.out.2.2.1.trans (others_below hb2))
    have HV2 := hide (owns_below A.out.2.2.2 hb2)
    clear hb2
    go_wp2_with fail
    refine (ws_any _ (uh HW2) (by simp [rulesTold]; omega) (by show (Lib.itoa ((p : Int) + 1)).toArray.size ≤ _; rw [List.size_toArray]; omega)).mono ?_
    rintro e w3 ⟨rfl, hw3, ho3⟩
    have HW3 := hide hw3
    have HO3 := hide ((uh HO2).trans ho3)
    have HV3 := hide (owns_kept (uh HW2) ho3 (by decide) (by decide) (uh HV2))
    clear hw3 ho3
    go_wp2
    go_roundg (ms.length - (0 + 1))
    case measure => have := A.out.1; omega
    case rel =>
     refine ⟨0 + 1, by omega, rfl, by go_num, ?_, uh HO3, uh HV3⟩
     rw [uh HST]
     have := uh HW3
     simpa [rulesTold] using this
   ·have hzb : (0 : Int) < (j : Int) := by omega
    have HZ := hide hz
    clear hz
    go_wp2_with fail
    refine (wb_any _ A.out.2.1 (by simp; omega) (by simp) (by simp)).mono ?_
    rintro e w1' ⟨rfl, hwx, hox⟩
    have HWx := hide hwx
    have HOx := hide (A.out.2.2.1.trans hox)
    have HVx := hide (owns_kept A.out.2.1 hox (by decide) (by decide) A.out.2.2.2)
    clear hwx hox
    go_wp2_with fail
    refine (itoa_any _ _ (by omega) (by omega) (tab_below (uh HWx).bl (uh HT))).mono ?_
    rintro e w2 ⟨rfl, hb2⟩
    have HW2 := hide ((uh HWx).below hb2)
    have HO2 := hide ((uh HOx).trans (others_below hb2))
    have HV2 := hide (owns_below (uh HVx) hb2)
    clear hb2
    go_wp2_with fail
    refine (ws_any _ (uh HW2) (by simp; omega) (by show (Lib.itoa ((p : Int) + 1)).toArray.size ≤ _; rw [List.size_toArray]; omega)).mono ?_
    rintro e w3 ⟨rfl, hw3, ho3⟩
    have HW3 := hide hw3
    have HO3 := hide ((uh HO2).trans ho3)
    have HV3 := hide (owns_kept (uh HW2) ho3 (by decide) (by decide) (uh HV2))
    clear hw3 ho3
    go_wp2
    go_roundg (ms.length - (j + 1))
    case measure => have := A.out.1; omega
    case rel =>
     refine ⟨j + 1, by omega, rfl, by go_num, ?_, uh HO3, uh HV3⟩
     rw [uh HST, if_neg (uh HZ)]
     have := uh HW3
     simpa [u8] using this
  ·have hje : j = ms.length := by omega
   have HJ := hide hje
   have hjc : ¬ (j : Int) < ms.length := by omega
   clear hje hwi hok hown
   go_wp2_with fail
   refine (wb_any _ A.out.2.1 (by simp; omega) (by simp) (by simp)).mono ?_
   rintro e w1' ⟨rfl, hwx, hox⟩
   have HWx := hide hwx
   have HOx := hide (A.out.2.2.1.trans hox)
   clear hwx hox
   go_wp2
   go_end0
   refine ⟨rfl, ?_, uh HOx⟩
   have := uh HWx
   rw [uh HJ, List.take_length] at this
   simpa [u8] using this
end Go.Proofs.YtdgbmcbkbkbdoaaGreatDoor
namespace Go.Proofs.YtdgbmcbkbkbdoaaGreatDoor
open Go.RowKit
theorem shownOut_len {p : PVal} (h : -9999999 ≤ p.n) (h' : p.n ≤ 9999999) : (shownOut p).length ≤ 8 := by
 have := itoa_len h h'
 unfold shownOut
 split
 ·simp
 ·split
  ·simp
  ·exact this
set_option maxRecDepth 100000 in
set_option maxHeartbeats 1600000 in
theorem writeKnown_any {W0 : World} {b : Nat} {l : List UInt8} {w : World} (it : PItem) (co ro : Option Addr) (cn cc rn rc : Nat) (p : PVal) (ms : List Nat) (mo : Option Addr) (mc : Nat) (h : WInv W0 b l w) (hl : l.length ≤ 10000000) (ht : Tab W0) (hv : w.ownsRow W0.heap.size 3 1 (.slice mo ms.length mc) ms.length (nats ms)) (hml : ms.length ≤ 1000) (hms : ∀ i ∈ ms, i ≤ 1000) (hp : -9999999 ≤ p.n) (hp' : p.n ≤ 9999999) :
  Calls Tryz.prog 62 #[.pointer (some ⟨b, 0, none⟩), .agg #[.string it.name, .bool it.isT, .int .i64 (it.marks : Int), .int .u8 it.policy, .slice co cn cc, .int .i64 (it.drops : Int), .slice ro rn rc], .agg #[.int .i64 p.kind, .int .i64 p.n, .slice mo ms.length mc]] w fun e w' => e = .returned (.tuple #[]) ∧ WInv W0 b (l ++ knownOut it (p, ms)) w' ∧ Lib.OthersKept 5 (some b) w w' := by
 obtain ⟨nm, bT, mk, po, cs, dr, rl⟩ := it
 simp only
 obtain ⟨w0, hw0⟩ : ∃ w0, w0 = ((w.alloc (.cells #[.string nm, .bool bT, .int .i64 (mk : Int), .int .u8 po, .slice co cn cc, .int .i64 (dr : Int), .slice ro rn rc] 114)).alloc (.cells #[.int .i64 p.kind, .int .i64 p.n, .slice mo ms.length mc] 123)) := ⟨_, rfl⟩
 have hb0 : Below w.heap.size w w0 := by rw [hw0]; exact ((Below.refl _ w).alloc (Nat.le_refl _) _).alloc (by simp) _
 have hN0 : Box w.heap.size #[.string nm, .bool bT, .int .i64 (mk : Int), .int .u8 po, .slice co cn cc, .int .i64 (dr : Int), .slice ro rn rc] 114 w0 := by
  unfold Box; rw [hw0, Below.heap_alloc _ _ _ (by simp)]; exact alloc_last w _
 have hN1 : Box (w.heap.size + 1) #[.int .i64 p.kind, .int .i64 p.n, .slice mo ms.length mc] 123 w0 := by
  unfold Box; rw [hw0]
  have := alloc_last (w.alloc (.cells #[.string nm, .bool bT, .int .i64 (mk : Int), .int .u8 po, .slice co cn cc, .int .i64 (dr : Int), .slice ro rn rc] 114)) (.cells #[.int .i64 p.kind, .int .i64 p.n, .slice mo ms.length mc] 123)
  simpa using this
 have hbw := h.blk
 have HW0 := hide (h.below hb0)
 have HO0 := hide (others_below (e := 5) (b := some b) hb0)
 have HV0 := hide (owns_below hv hb0)
 have HN0 := hide hN0
 have HN1 := hide hN1
 have HT := hide ht
 have HMS := hide hms
 have hsl := shownOut_len hp hp'
 obtain ⟨⟨d0, d1, d2⟩, _⟩ := box3 hN1
 have hs1 := lt_of_block hN1
 have hne0 : w.heap.size ≠ b := by omega
 have hne1 : w.heap.size + 1 ≠ b := by omega
 clear h hb0 hv hN0 hN1 ht hms
 go_enter Tryz.func62, Tryz.ntmps62
 go_wp2_with fail
 rw [← hw0]
 clear hw0
 refine (valueText_any p _ hp hp' (tab_below (uh HW0).bl (uh HT))).mono ?_
 rintro e w1 ⟨rfl, hb1⟩
 have HW1 := hide ((uh HW0).below hb1)
 have HO1 := hide ((uh HO0).trans (others_below hb1))
 have HV1 := hide (owns_below (uh HV0) hb1)
 have HN01 : Hid (Box _ _ _ w1) := hide ((hb1.block _ (lt_of_block (uh HN0))).trans (uh HN0))
 have HN11 : Hid (Box _ _ _ w1) := hide ((hb1.block _ (lt_of_block (uh HN1))).trans (uh HN1))
 clear hb1 d0 d1 d2 hs1
 go_wp2_with fail
 refine (ws_any _ (uh HW1) (by omega) (by show (shownOut p).toArray.size ≤ _; rw [List.size_toArray]; omega)).mono ?_
 rintro e w2 ⟨rfl, hw2, ho2⟩
 have HW2 := hide hw2
 have HO2 := hide ((uh HO1).trans ho2)
 have HV2 := hide (owns_kept (uh HW1) ho2 (by decide) (by decide) (uh HV1))
 have hN02 := (uh HN01).kept ho2 hne0 (by decide)
 have hN12 := (uh HN11).kept ho2 hne1 (by decide)
 have HN12 := hide hN12
 obtain ⟨⟨c0, c1, c2, c3, c4, c5, c6⟩, f0, f1, f2, f3, f4, f5, f6⟩ := cells7 hN02
 have hs2 := lt_of_block hN02
 clear hw2 ho2 hN02 hN12 c0 c2 c3 c4 c6 f0 f1 f2 f3 f4 f5 f6
 cases bT with
 | false =>
  go_wp2_with fail
  go_end0
  refine ⟨rfl, ?_, uh HO2⟩
  have := uh HW2
  simpa [knownOut] using this
 | true =>
  by_cases hd : dr = 0
  ·subst hd
   go_wp2_with fail
   refine (wb_any _ (uh HW2) (by simp; omega) (by simp) (by simp)).mono ?_
   rintro e w3 ⟨rfl, hw3, ho3⟩
   have HW3 := hide hw3
   have HO3 := hide ((uh HO2).trans ho3)
   have HV3 := hide (owns_kept (uh HW2) ho3 (by decide) (by decide) (uh HV2))
   have hN13 := (uh HN12).kept ho3 hne1 (by decide)
   obtain ⟨⟨d0, d1, d2⟩, _⟩ := box3 hN13
   have hs3 := lt_of_block hN13
   clear hw3 ho3 hN13
   go_wp2_with fail
   refine (writeRules_any _ ms (uh HW3) (by simp; omega) (uh HT) (uh HV3) hml (uh HMS)).mono ?_
   rintro e w4 ⟨rfl, hw4, ho4⟩
   have HW4 := hide hw4
   have HO4 := hide ((uh HO3).trans ho4)
   clear hw4 ho4
   go_wp2_with fail
   go_end0
   refine ⟨rfl, ?_, uh HO4⟩
   have := uh HW4
   simpa [knownOut, u8] using this
  ·have hdb : ((dr : Int) == 0) = false := by simpa using hd
   have HD := hide hd
   clear hd
   go_wp2_with fail
   go_end0
   refine ⟨rfl, ?_, uh HO2⟩
   have := uh HW2
   simpa [knownOut, uh HD] using this
end Go.Proofs.YtdgbmcbkbkbdoaaGreatDoor
namespace Go.Proofs.YtdgbmcbkbkbdoaaGreatDoor
open Go.RowKit
theorem foldl_max_bd : ∀ (l : List Int) (a : Int), -1000000 ≤ a ∧ a ≤ 1000000 → (∀ x ∈ l, -1000000 ≤ x ∧ x ≤ 1000000) → -1000000 ≤ l.foldl max a ∧ l.foldl max a ≤ 1000000
 | [], a, ha, _ => ha
 | x :: l, a, ha, h => by
  have h1 := h x (by simp)
  rw [List.foldl_cons]
  exact foldl_max_bd l (max a x) (by omega) (fun y hy => h y (by simp [hy]))
theorem decideP_bd {pol : Int} {l : List Int} (hl : l.length ≤ 8) (h : ∀ x ∈ l, -1000000 ≤ x ∧ x ≤ 1000000) : -8000000 ≤ (decideP pol l).n ∧ (decideP pol l).n ≤ 8000000 := by
 have h1 := foldl_bd l 0 h
 unfold decideP
 split
 ·simp only; omega
 split
 ·simp only; omega
 cases l with
 | nil => simp
 | cons x l =>
  have h2 := h x (by simp)
  have h3 := foldl_max_bd l x h2 (fun y hy => h y (by simp [hy]))
  simp only
  split
  ·simp only; omega
  split
  ·simp
  ·simp only; omega
theorem res_bd {its : List PItem} (ok : OkPlan its) {vals : List Int} (hv : ∀ x ∈ vals, -1000000 ≤ x ∧ x ≤ 1000000) : ∀ j, j ≤ its.length → ∀ x ∈ resTo its vals j, (-8000000 ≤ x.1.n ∧ x.1.n ≤ 8000000) ∧ x.2.length ≤ 8 ∧ ∀ i ∈ x.2, i ≤ 8
 | 0, _ => by simp [resTo]
 | j + 1, hj => by
  intro x hx
  rw [resTo_succ vals (by omega), List.mem_append] at hx
  rcases hx with hx | hx
  ·exact res_bd ok hv j (by omega) x hx
  ·rw [List.mem_singleton] at hx
   rw [hx]
   split
   ·have hm := List.getElem_mem (l := its) (n := j) (by omega)
    have h8 := ok.rlen _ hm
    have hnum := ok.num _ hm
    generalize its[j] = it at *
    have hl := metTo_len it.rules (colVals its ((resTo its vals j).map Prod.fst) it) it.rules.length
    have hlt := metTo_lt (rs := it.rules) (vs := colVals its ((resTo its vals j).map Prod.fst) it) (Nat.le_refl _)
    refine ⟨decideP_bd (by simp only [numsOf, List.length_map]; unfold metP; omega) (fun y hy => ?_), by unfold tableP metP; simp only; omega, fun i hi => by have := hlt i hi; omega⟩
    unfold numsOf at hy
    rw [List.mem_map] at hy
    obtain ⟨i, hi, rfl⟩ := hy
    have := hlt i hi
    simp only [numOf, List.getElem?_eq_getElem this]
    exact hnum _ (List.getElem_mem this)
   ·refine ⟨?_, by simp, by simp⟩
    simp only
    rw [List.getD_eq_getElem?_getD]
    cases hq : vals[inputsTo its j]? with
    | none => simp
    | some y => have := hv y (List.mem_of_getElem? hq); simp only [Option.getD_some]; omega
theorem fits_bd {its : List PItem} {vals : List Int} (h : fitsP its vals = true) : vals.length = inputsP its ∧ ∀ x ∈ vals, -1000000 ≤ x ∧ x ≤ 1000000 := by
 unfold fitsP at h
 rw [Bool.and_eq_true] at h
 refine ⟨by simpa using h.1, fun x hx => ?_⟩
 have h2 := h.2
 rw [Bool.not_eq_true', List.any_eq_false] at h2
 have := h2 x hx
 unfold numBeyond at this
 simp at this
 omega
theorem WInv.drew {W0 : World} {b : Nat} {l : List UInt8} {w : World} (h : WInv W0 b l w) : WInv W0 b l w.drew := ⟨⟨h.bl.os, h.bl.tape, h.bl.output, h.bl.size, h.bl.block⟩, h.bd⟩
theorem owns_drew {w : World} {base : Nat} {e : TypeId} {size : Nat} {v : Value} {n : Nat} {xs : List Value} (h : w.ownsRow base e size v n xs) : w.drew.ownsRow base e size v n xs := h
theorem ResV.kept {W0 : World} {b : Nat} {l : List UInt8} {w w' : World} {base : Nat} {rs : List (PVal × Value)} {ps : List (PVal × List Nat)} (hw : WInv W0 b l w) (g : Lib.OthersKept 5 (some b) w w') (h : ResV base w rs ps) : ResV base w' rs ps :=
 ⟨h.1, fun x hx => ⟨(h.2 x hx).1, owns_kept hw g (by decide) (by decide) (h.2 x hx).2⟩⟩
theorem ResV.base {w : World} {base base' : Nat} {rs : List (PVal × Value)} {ps : List (PVal × List Nat)} (h : ResV base w rs ps) (hb : base' ≤ base) : ResV base' w rs ps :=
 ⟨h.1, fun x hx => ⟨(h.2 x hx).1, owns_base (h.2 x hx).2 hb⟩⟩
theorem lineOut_len {it : PItem} {lb clear : Nat} {r : PVal × List Nat} (hn : it.name.size ≤ 8) (h : -8000000 ≤ r.1.n ∧ r.1.n ≤ 8000000) (hl : r.2.length ≤ 8) (hi : ∀ i ∈ r.2, i ≤ 8) : (lineOut it lb clear r).length ≤ 1000 := by
 have h1 : it.name.data.toList.length ≤ 8 := by simpa using hn
 have h2 := shownOut_len (p := r.1) (by omega) (by omega)
 have h3 := rulesTold_len false r.2 (fun i hi' => by have := hi i hi'; omega)
 unfold lineOut knownOut
 simp only [List.length_append, List.length_cons, List.length_nil]
 split
 ·simp only [List.length_append]
  split
  ·simp only [List.length_append, List.length_cons, List.length_nil]; omega
  ·simp only [List.length_nil]; omega
 ·simp only [List.length_cons, List.length_nil]; omega
theorem OkPlan.nameLen {its : List PItem} (h : OkPlan its) : ∀ it ∈ its, it.name.size ≤ 8 := fun it hi => by
 have key : ∀ x : ByteArray, NameOK x → x.size ≤ 8 := fun x hx => by
  have := hx.1
  unfold isNameB at this
  simp only [Bool.and_eq_true, decide_eq_true_eq] at this
  have := this.2
  omega
 rcases h.can it hi with hc | hc
 ·exact key _ hc.name
 ·exact key _ hc.name
theorem toldTo_len {its : List PItem} (ok : OkPlan its) {vals : List Int} (hv : ∀ x ∈ vals, -1000000 ≤ x ∧ x ≤ 1000000) (clear : Nat) : ∀ j, j ≤ its.length → (toldTo its (labsP its) (resP its vals) clear j).length ≤ j * 1000
 | 0, _ => by simp [toldTo]
 | j + 1, hj => by
  have h1 := toldTo_len ok hv clear j (by omega)
  have hr : j < (resP its vals).length := by unfold resP; rw [resTo_len]; omega
  have hb := res_bd ok hv _ (Nat.le_refl _) (resP its vals)[j] (List.getElem_mem hr)
  rw [toldTo, List.length_append, getD_at its noItem (by omega), getD_at (resP its vals) _ hr]
  have := lineOut_len (it := its[j]) (lb := (labsP its).getD j 0) (clear := clear) (ok.nameLen _ (List.getElem_mem _)) hb.1 hb.2.1 hb.2.2
  omega
set_option maxRecDepth 100000 in
set_option maxHeartbeats 3200000 in
theorem explWrite_any (v : Value) (xs : List LItem) (clear : Nat) (vl : Value) (vals : List Int) (w : World) (hit : ItemsV w v xs) (ok : OkPlan (xs.map LItem.it)) (hwf : ∀ x ∈ xs, WfI x.it) (hvl : SlAt w 1 vl vals.length (ints vals)) (hfit : fitsP (xs.map LItem.it) vals = true) (hcl : clear ≤ 7) (ht : Tab w) :
  Calls Tryz.prog 39 #[v, .int .i64 (clear : Int), vl] w fun e w' => e = .returned (.string ⟨(explainP (xs.map LItem.it) clear vals).toArray⟩) ∧ Below w.heap.size w w' := by
 obtain ⟨io, ic, rfl⟩ := hit.1.form
 obtain ⟨vo, vc, rfl⟩ := hvl.form
 have hlen : xs.length ≤ 12 := by have := ok.len; simpa using this
 have hw0 : WInv w w.heap.size [] (w.alloc (.cells #[.pointer none, .slice none 0 0] 111)) :=
  ⟨(Below.refl _ w).alloc (Nat.le_refl _) _, Or.inl ⟨Nat.le_refl _, .slice none 0 0, alloc_last w _, World.ownsRowF_nil _ _ _ _, by simp [Value.ownBlock]⟩⟩
 have HW0 := hide hw0
 have HI := hide hit
 have HK := hide ok
 have HWF := hide hwf
 have HV := hide hvl
 have HF := hide (fits_bd hfit)
 have HT := hide ht
 clear hit ok hwf hvl hfit hw0 ht
 go_enter Tryz.func39, Tryz.ntmps39
 go_wp2_with fail
 refine (labels_any _ xs _ ((uh HI).below (uh HW0).bl) (uh HK)).mono ?_
 rintro e w1 ⟨lv, rfl, hb1, hlo⟩
 obtain ⟨lo, lc, rfl⟩ := (SlAt.of_owns hlo).form
 have HW1 := hide ((uh HW0).below hb1)
 have HL1 := hide (owns_base hlo (base' := w.heap.size) (uh HW0).bl.size)
 clear hb1 hlo
 go_wp2_with fail
 refine (evitems_any _ xs _ vals _ ((uh HI).below (uh HW1).bl) (uh HK) (uh HWF) ((uh HV).below (uh HW1).bl) (uh HF).1).mono ?_
 rintro e w2 ⟨rv, rs, rfl, hb2, hres, hro⟩
 obtain ⟨so, sc, rfl⟩ := (SlAt.of_owns hro).form
 have HW2 := hide ((uh HW1).below hb2)
 have HL2 := hide (owns_below (uh HL1) hb2)
 have HR2 := hide (hres.base (base' := w.heap.size) (uh HW1).bl.size)
 have HS2 := hide (owns_base hro (base' := w.heap.size) (uh HW1).bl.size)
 have hrl : rs.length = xs.length := by rw [hres.1]; unfold resP; rw [resTo_len]; simp
 have HRL := hide hrl
 clear hb2 hres hro hrl
 go_wp2_with fail
 obtain ⟨its, hits⟩ : ∃ its, its = xs.map LItem.it := ⟨_, rfl⟩
 have HITS := hide hits
 have hll : (labsP (xs.map LItem.it)).length = xs.length := by unfold labsP; rw [labsTo_len]; simp
 have HLL := hide hll
 clear hits hll
 go_loopg [17] rs.length (fun g i wr => ∃ j : Nat, j ≤ rs.length ∧ g = rs.length - j ∧ i = .int .i64 (j : Int) ∧ WInv w w.heap.size (toldTo its (labsP its) (resP its vals) clear j) wr ∧ wr.ownsRow w.heap.size 3 1 (.slice lo (labsP (xs.map LItem.it)).length lc) (labsP (xs.map LItem.it)).length (nats (labsP (xs.map LItem.it))) ∧ ResV w.heap.size wr rs (resP (xs.map LItem.it) vals) ∧ wr.ownsRow w.heap.size 123 3 (.slice so rs.length sc) rs.length (rs.flatMap rc3))
 case atStart => exact ⟨0, by omega, rfl, rfl, by simpa [toldTo] using uh HW2, uh HL2, uh HR2, uh HS2⟩
 case round =>
  obtain ⟨j, hj, hg, rfl, hwi, hlw, hrv, hro⟩ := hrel
  have A : Aside (gk = rs.length - j ∧ WInv w w.heap.size (toldTo its (labsP its) (resP its vals) clear j) wr) := ⟨hg, hwi⟩
  have HLW := hide hlw
  have HRV := hide hrv
  have HRO := hide hro
  have htl := toldTo_len (uh HK) (uh HF).2 clear j
  rw [← uh HITS] at htl
  have htl2 : (toldTo its (labsP its) (resP its vals) clear j).length ≤ 12000 := by
   have hrx := uh HRL
   have := htl (by rw [uh HITS, List.length_map]; omega); omega
  clear hg htl
  by_cases hlt : j < rs.length
  ·have hltx : j < xs.length := by have := uh HRL; omega
   have hltl : j < (labsP (xs.map LItem.it)).length := by rw [uh HLL]; exact hltx
   have hpr : j < (resP (xs.map LItem.it) vals).length := by rw [← hrv.1]; exact hlt
   -- the result
   rcases SlAt.of_owns hro with ⟨h0, _⟩ | ⟨g2, cap2, hv2, hc2, hm2, hgl2, hx2⟩
   ·omega
   simp only [Value.slice.injEq] at hv2
   obtain ⟨rfl, _, rfl⟩ := hv2
   have key : ∀ i, i < 3 → wr.cell? ⟨g2, j * 3 + i, none⟩ = (rc3 rs[j])[i]? := fun i hi => by
    rw [hx2 _ (by omega)]
    exact flat_at rc3 3 (fun _ => rfl) rs j i hlt hi
   have l0 := key 0 (by omega)
   have l1 := key 1 (by omega)
   have l2 := key 2 (by omega)
   simp only [rc3, List.getElem?_cons_zero, List.getElem?_cons_succ, Nat.add_zero] at l0 l1 l2
   have hget := hrv.get hlt hpr
   obtain ⟨mo, mc, hmv⟩ := (SlAt.of_owns hget.2).form
   have hbd := res_bd (uh HK) (uh HF).2 _ (Nat.le_refl _) (resP (xs.map LItem.it) vals)[j] (List.getElem_mem hpr)
   have hstep : toldTo its (labsP its) (resP its vals) clear (j + 1) = toldTo its (labsP its) (resP its vals) clear j ++ lineOut xs[j].it (labsP (xs.map LItem.it))[j] clear (rs[j].1, (resP (xs.map LItem.it) vals)[j].2) := by
    rw [toldTo, uh HITS, getD_at _ _ (by simpa using hltx), getD_at _ _ hltl, getD_at _ _ hpr, hget.1]
    simp
   have h7 : (labsP (xs.map LItem.it))[j] ≤ 7 := labsTo_le (fun it hi => ((uh HK).marks it hi).1) _ _ (List.getElem_mem hltl)
   -- the label
   rcases SlAt.of_owns hlw with ⟨h0, _⟩ | ⟨g3, cap3, hv3, hc3, hm3, hgl3, hx3⟩
   ·omega
   simp only [Value.slice.injEq] at hv3
   obtain ⟨rfl, _, rfl⟩ := hv3
   -- the item
   have hxi := (uh HI).2 xs[j] (List.getElem_mem hltx)
   have hwx := (uh HWF) xs[j] (List.getElem_mem hltx)
   rcases (uh HI).1 with ⟨h0, _⟩ | ⟨g, cap', hv, hc, hm, hgl, hx⟩
   ·omega
   simp only [Value.slice.injEq] at hv
   obtain ⟨rfl, _, rfl⟩ := hv
   have ikey : ∀ (w' : World), Below w.heap.size w w' → ∀ i, i < 7 → w'.cell? ⟨g, j * 7 + i, none⟩ = (itCells xs[j])[i]? := fun w' hb' i hi => by
    rw [hb'.cell (p := ⟨g, j * 7 + i, none⟩) hgl, hx _ (by omega)]
    exact flat_at itCells 7 (fun _ => rfl) xs j i hltx hi
   rw [hmv] at l2
   have hown := hget.2
   rw [hmv] at hown
   have hlab : ∀ w' : World, w'.ownsRow w.heap.size 3 1 (.slice (some ⟨g3, 0, none⟩) (labsP (xs.map LItem.it)).length lc) (labsP (xs.map LItem.it)).length (nats (labsP (xs.map LItem.it))) → w'.cell? ⟨g3, j, none⟩ = some (.int .i64 ((labsP (xs.map LItem.it))[j] : Int)) := fun w' ho => by
    rcases SlAt.of_owns ho with ⟨h0, _⟩ | ⟨g4, cap4, hv4, _, _, _, hx4⟩
    ·omega
    simp only [Value.slice.injEq, Option.some.injEq, Addr.mk.injEq] at hv4
    obtain ⟨⟨rfl, _⟩, _, rfl⟩ := hv4
    rw [hx4 j (by omega)]
    simp [nats, hltl]
   generalize xs[j] = x at *
   generalize rs[j] = y at *
   generalize (labsP (xs.map LItem.it))[j] = lb at *
   generalize (resP (xs.map LItem.it) vals)[j] = q at *
   obtain ⟨co, cc, hcv⟩ := hxi.1.form
   obtain ⟨ro, rc, hrv2⟩ := hxi.2.2.1.form
   obtain ⟨it, cv, rv0, zv⟩ := x
   obtain ⟨⟨y0, y1⟩, yv⟩ := y
   obtain ⟨q0, qm⟩ := q
   simp only at hcv hrv2 l0 l1 l2 hbd hstep hown hwx hget
   subst hcv hrv2
   have hq := hget.1
   subst hq
   simp only at hbd
   have HST := hide hstep
   have HIK := hide ikey
   have HLAB := hide hlab
   have HOWN := hide hown
   have hjx : (j : Int) < xs.length := by omega
   have hjl : (j : Int) < (labsP (xs.map LItem.it)).length := by omega
   have hjr : (j : Int) < rs.length := by omega
   have hb1 : Below wr.heap.size wr (wr.alloc (.cells #[.int .i64 y0, .int .i64 y1, .slice mo qm.length mc] 123)) := (Below.refl _ wr).alloc (Nat.le_refl _) _
   have hN1 : Box wr.heap.size #[.int .i64 y0, .int .i64 y1, .slice mo qm.length mc] 123 (wr.alloc (.cells #[.int .i64 y0, .int .i64 y1, .slice mo qm.length mc] 123)) := alloc_last wr _
   have hw1 := hwi.below hb1
   have k0 := ikey _ hw1.bl 0 (by omega)
   simp only [itCells, icells, List.getElem?_cons_zero, Nat.add_zero] at k0
   have HWa := hide hw1
   have HLa := hide (owns_below hlw hb1)
   have HRa := hide (hrv.below hb1)
   have HSa := hide (owns_below hro hb1)
   have HMa := hide (owns_below hown hb1)
   have HNa := hide hN1
   have hwib := hwi.blk
   have hne : wr.heap.size ≠ w.heap.size := by omega
   have hnm := hwx.name
   clear key hx2 hc2 hm2 hgl2 hx3 hc3 hm3 hgl3 hx hc hm hgl hwi hlw hrv hro hxi hmv hget hstep ikey hlab hown hb1 hN1 hw1
   go_wp2_with fail
   refine (ws_any _ (uh HWa) (by omega) (by omega)).mono ?_
   rintro e wb ⟨rfl, hwb, hob⟩
   have HWb := hide hwb
   have HLb := hide (owns_kept (uh HWa) hob (by decide) (by decide) (uh HLa))
   have HRb := hide ((uh HRa).kept (uh HWa) hob)
   have HSb := hide (owns_kept (uh HWa) hob (by decide) (by decide) (uh HSa))
   have HMb := hide (owns_kept (uh HWa) hob (by decide) (by decide) (uh HMa))
   have HNb := hide ((uh HNa).kept hob hne (by decide))
   clear hwb hob HWa HLa HRa HSa HMa HNa k0
   go_wp2_with fail
   refine (wb_any _ (uh HWb) (by simp; omega) (by simp) (by simp)).mono ?_
   rintro e wc ⟨rfl, hwc, hoc⟩
   have HWc := hide hwc
   have hLc := owns_kept (uh HWb) hoc (by decide) (by decide) (uh HLb)
   have lab := uh HLAB _ hLc
   have HLc := hide hLc
   have HRc := hide ((uh HRb).kept (uh HWb) hoc)
   have HSc := hide (owns_kept (uh HWb) hoc (by decide) (by decide) (uh HSb))
   have HMc := hide (owns_kept (uh HWb) hoc (by decide) (by decide) (uh HMb))
   have hNc := (uh HNb).kept hoc hne (by decide)
   have HNc := hide hNc
   obtain ⟨⟨n0, n1, n2⟩, _⟩ := box3 hNc
   have hsN := lt_of_block hNc
   have i0 := uh HIK _ hwc.bl 0 (by omega)
   have i1 := uh HIK _ hwc.bl 1 (by omega)
   have i2 := uh HIK _ hwc.bl 2 (by omega)
   have i3 := uh HIK _ hwc.bl 3 (by omega)
   have i4 := uh HIK _ hwc.bl 4 (by omega)
   have i5 := uh HIK _ hwc.bl 5 (by omega)
   have i6 := uh HIK _ hwc.bl 6 (by omega)
   simp only [itCells, icells, List.getElem?_cons_zero, List.getElem?_cons_succ, Nat.add_zero] at i0 i1 i2 i3 i4 i5 i6
   clear hwc hoc hLc hNc HWb HLb HRb HSb HMb HNb
   have hbits := bits_not7 h7 hcl
   cases hs : seenB lb clear with
   | true =>
    have hsb : ((((lb &&& (7 - clear) : Nat) : Int)) == 0) = true := by unfold seenB at hs; simp at hs ⊢; omega
    have HSN := hide hs
    clear hs
    go_wp2_with fail
    have hcall := writeKnown_any (W0 := w) (b := w.heap.size) (w := wc.drew) it co ro it.cols.length cc it.rules.length rc ⟨y0, y1⟩ qm mo mc (uh HWc).drew (by simp; omega) (uh HT) (owns_drew (uh HMc)) (by omega) (fun i hi => by have := hbd.2.2 i hi; omega) (by simp only; omega) (by simp only; omega)
    have HCALL := hide hcall
    clear hcall
    go_region_with (go_at_call 62; refine (uh HCALL).mono ?_; rintro e wd ⟨rfl, hwd, hod⟩; have HWd := hide hwd; have HLd := hide (owns_kept (w := wc) (uh HWc) hod (by decide) (by decide) (uh HLc)); have HRd := hide (ResV.kept (w := wc) (uh HWc) hod (uh HRc)); have HSd := hide (owns_kept (w := wc) (uh HWc) hod (by decide) (by decide) (uh HSc)); clear hwd hod)
    all_goals
     have hkl : (knownOut it (⟨y0, y1⟩, qm)).length ≤ 1000 := by
      have := lineOut_len (it := it) (lb := 0) (clear := 0) (r := (⟨y0, y1⟩, qm)) hnm hbd.1 hbd.2.1 hbd.2.2
      unfold lineOut seenB at this
      simp at this
      omega
     go_wp2_with fail
     refine (wb_any _ (uh HWd) (by simp; omega) (by simp) (by simp)).mono ?_
     rintro e we ⟨rfl, hwe, hoe⟩
     have HWe := hide hwe
     have HLe := hide (owns_kept (uh HWd) hoe (by decide) (by decide) (uh HLd))
     have HRe := hide ((uh HRd).kept (uh HWd) hoe)
     have HSe := hide (owns_kept (uh HWd) hoe (by decide) (by decide) (uh HSd))
     clear hwe hoe
     go_wp2
     go_roundg (rs.length - (j + 1))
     case measure => have := A.out.1; omega
     case rel =>
      refine ⟨j + 1, by omega, rfl, by go_num, ?_, uh HLe, uh HRe, uh HSe⟩
      rw [uh HST]
      have := uh HWe
      simpa [lineOut, uh HSN, u8] using this
   | false =>
    have hsb : ((((lb &&& (7 - clear) : Nat) : Int)) == 0) = false := by unfold seenB at hs; simp at hs ⊢; omega
    have HSN := hide hs
    clear hs
    go_wp2_with fail
    refine (wb_any _ (uh HWc) (by simp; omega) (by simp) (by simp)).mono ?_
    rintro e wd ⟨rfl, hwd, hod⟩
    have HWd := hide hwd
    have HLd := hide (owns_kept (uh HWc) hod (by decide) (by decide) (uh HLc))
    have HRd := hide ((uh HRc).kept (uh HWc) hod)
    have HSd := hide (owns_kept (uh HWc) hod (by decide) (by decide) (uh HSc))
    clear hwd hod
    go_wp2_with fail
    refine (wb_any _ (uh HWd) (by simp; omega) (by simp) (by simp)).mono ?_
    rintro e we ⟨rfl, hwe, hoe⟩
    have HWe := hide hwe
    have HLe := hide (owns_kept (uh HWd) hoe (by decide) (by decide) (uh HLd))
    have HRe := hide ((uh HRd).kept (uh HWd) hoe)
    have HSe := hide (owns_kept (uh HWd) hoe (by decide) (by decide) (uh HSd))
    clear hwe hoe
    go_wp2
    go_roundg (rs.length - (j + 1))
    case measure => have := A.out.1; omega
    case rel =>
     refine ⟨j + 1, by omega, rfl, by go_num, ?_, uh HLe, uh HRe, uh HSe⟩
     rw [uh HST]
     have := uh HWe
     simpa [lineOut, uh HSN, u8] using this
  ·have hje : j = rs.length := by omega
   have HJ : Hid (toldTo its (labsP its) (resP its vals) clear j = explainP (xs.map LItem.it) clear vals) := hide (by
    rw [uh HITS, hje]; unfold explainP; rw [List.length_map, uh HRL])
   have hjc : ¬ (j : Int) < rs.length := by omega
   clear hje hwi hlw hrv hro
   go_wp2_with fail
   refine (Tryz.Builder_String_any_k w.heap.size w.heap.size _ _ A.out.2.bd A.out.2.bl.size).mono ?_
   rintro e w9 ⟨rfl, _, hb9, _⟩
   have HB := hide (A.out.2.bl.trans hb9)
   clear hb9
   go_wp2
   go_ret
   refine ⟨?_, uh HB⟩
   rw [uh HJ]
   rfl
end Go.Proofs.YtdgbmcbkbkbdoaaGreatDoor
