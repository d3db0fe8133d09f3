import Derived.Test.YtdgbmcbkbkbdoaaGreatDoorRdN
namespace Go.Proofs.YtdgbmcbkbkbdoaaGreatDoor
open Go.RowKit
theorem flat_at {α : Type} (f : α → List Value) (m : Nat) (hm : ∀ x, (f x).length = m) : ∀ (l : List α) (i j : Nat) (h : i < l.length), j < m → (l.flatMap f)[i * m + j]? = (f l[i])[j]?
 | [], i, j, h, _ => by simp at h
 | x :: l, 0, j, h, hj => by
  simp only [List.flatMap_cons, Nat.zero_mul, Nat.zero_add, List.getElem_cons_zero]
  rw [List.getElem?_append_left (by rw [hm]; exact hj)]
 | x :: l, i + 1, j, h, hj => by
  simp only [List.flatMap_cons, List.getElem_cons_succ]
  rw [List.getElem?_append_right (by rw [hm, Nat.add_mul]; omega), hm, show (i + 1) * m + j - m = i * m + j by rw [Nat.add_mul]; omega]
  exact flat_at f m hm l i j (by simpa using h) hj
def SlAt (w : World) (size : Nat) (v : Value) (n : Nat) (xs : List Value) : Prop :=
 (n = 0 ∧ ∃ ao cap, v = .slice ao 0 cap) ∨ ∃ g cap, v = .slice (some ⟨g, 0, none⟩) n cap ∧ n ≤ cap ∧ cap ≤ maxLen ∧ g < w.heap.size ∧ ∀ j, j < n * size → w.cell? ⟨g, j, none⟩ = xs[j]?
theorem SlAt.of_owns {w : World} {base : Nat} {e : TypeId} {size : Nat} {v : Value} {n : Nat} {xs : List Value} (h : w.ownsRow base e size v n xs) : SlAt w size v n xs := by
 obtain ⟨h1, h2⟩ := h
 rcases h2 with ⟨rfl, rfl⟩ | ⟨g, cap, cur, rfl, hg, hh, hc, hm, hs, ht⟩
 ·exact Or.inl ⟨rfl, none, 0, rfl⟩
 ·refine Or.inr ⟨g, cap, rfl, hc, hm, lt_of_block hh, fun j hj => ?_⟩
  rw [← ht, List.getElem?_take_of_lt hj]
  simp [World.cell?, hh]
theorem SlAt.below {w w' : World} {size : Nat} {v : Value} {n : Nat} {xs : List Value} (h : SlAt w size v n xs) (g : Below w.heap.size w w') : SlAt w' size v n xs := by
 rcases h with h | ⟨b, cap, hv, hc, hm, hb, hx⟩
 ·exact Or.inl h
 ·exact Or.inr ⟨b, cap, hv, hc, hm, Nat.lt_of_lt_of_le hb g.size, fun j hj => by rw [g.cell (p := ⟨b, j, none⟩) hb]; exact hx j hj⟩
theorem SlAt.form {w : World} {size : Nat} {v : Value} {n : Nat} {xs : List Value} (h : SlAt w size v n xs) : ∃ ao cap, v = .slice ao n cap := by
 rcases h with ⟨rfl, ao, cap, rfl⟩ | ⟨b, cap, hv, _⟩
 ·exact ⟨_, _, rfl⟩
 ·exact ⟨_, _, hv⟩
theorem SlAt.take {w : World} {size : Nat} {g n cap : Nat} {xs : List Value} (hc : n ≤ cap) (hm : cap ≤ maxLen) (hg : g < w.heap.size) (h : ∀ j, j < n * size → w.cell? ⟨g, j, none⟩ = xs[j]?) {i : Nat} (hi : i ≤ n) : SlAt w size (.slice (some ⟨g, 0, none⟩) i cap) i (xs.take (i * size)) :=
 Or.inr ⟨g, cap, rfl, by omega, hm, hg, fun j hj => by
  rw [List.getElem?_take_of_lt hj]
  exact h j (Nat.lt_of_lt_of_le hj (Nat.mul_le_mul_right size hi))⟩
def RulesV (w : World) (v : Value) (vs : List Value) (rs : List PRule) : Prop :=
 vs.length = rs.length ∧ SlAt w 2 v rs.length (rcells vs rs) ∧ ∀ x ∈ vs.zip rs, SlAt w 4 x.1 x.2.tests.length (tsCells x.2.tests)
def ItemV (w : World) (x : LItem) : Prop := SlAt w 1 x.cv x.it.cols.length (x.it.cols.map Value.string) ∧ RulesV w x.rv x.vs x.it.rules
def ItemsV (w : World) (v : Value) (xs : List LItem) : Prop := SlAt w 7 v xs.length (xs.flatMap itCells) ∧ ∀ x ∈ xs, ItemV w x
theorem RulesV.below {w w' : World} {v : Value} {vs : List Value} {rs : List PRule} (h : RulesV w v vs rs) (g : Below w.heap.size w w') : RulesV w' v vs rs := ⟨h.1, h.2.1.below g, fun x hx => (h.2.2 x hx).below g⟩
theorem ItemV.below {w w' : World} {x : LItem} (h : ItemV w x) (g : Below w.heap.size w w') : ItemV w' x := ⟨h.1.below g, h.2.below g⟩
theorem ItemsV.below {w w' : World} {v : Value} {xs : List LItem} (h : ItemsV w v xs) (g : Below w.heap.size w w') : ItemsV w' v xs := ⟨h.1.below g, fun x hx => (h.2 x hx).below g⟩
theorem ItemsV.of_at {w : World} {base : Nat} {v : Value} {xs : List LItem} (h : ItemsAt base w v xs) : ItemsV w v xs :=
 ⟨SlAt.of_owns h.1, fun x hx => ⟨SlAt.of_owns (h.2 x hx).1, (h.2 x hx).2.1, SlAt.of_owns (h.2 x hx).2.2.1, fun y hy => SlAt.of_owns ((h.2 x hx).2.2.2 y hy)⟩⟩
def numBeyond (n : Int) : Bool := decide (1000000 < n ∨ n < -1000000)
def testBeyond (t : PTest) : Bool := numBeyond t.low || numBeyond t.high
def ruleBeyond (r : PRule) : Bool := numBeyond r.num || r.tests.any testBeyond
def itemBeyond (it : PItem) : Bool := decide (3 < it.cols.length) || decide (8 < it.rules.length) || it.rules.any ruleBeyond
def beyondB (its : List PItem) : Bool := decide (12 < its.length) || its.any itemBeyond
set_option maxHeartbeats 400000 in
theorem numBeyond_any (n : Int) (w : World) :
  Calls Tryz.prog 59 #[.int .i64 n] w fun e w' => e = .returned (.bool (numBeyond n)) ∧ w' = w := by
 by_cases h1 : 1000000 < n
 ·have h2 : decide (1000000 < n) = true := by simpa using h1
  go_enter Tryz.func59, Tryz.ntmps59
  go_wp2
  go_ret
  refine ⟨ret_bool ?_, rfl⟩
  simp [numBeyond, h1]
 ·have h2 : decide (1000000 < n) = false := by simpa using h1
  go_enter Tryz.func59, Tryz.ntmps59
  go_wp2
  go_ret
  refine ⟨ret_bool ?_, rfl⟩
  have h1' : ¬ 1000000 < n := by omega
  simp [numBeyond, h1']
set_option maxHeartbeats 400000 in
theorem testBeyond_any (t : PTest) (w : World) :
  Calls Tryz.prog 161 #[tv t] w fun e w' => e = .returned (.bool (testBeyond t)) ∧ Below w.heap.size w w' := by
 obtain ⟨t0, t1, t2, t3⟩ := t
 simp only [tv, testBeyond]
 cases h1 : numBeyond t2 with
 | true =>
  have H1 := hide h1
  clear h1
  go_enter Tryz.func161, Tryz.ntmps161
  go_wp2_with (go_at_call 59; refine (numBeyond_any _ _).mono ?_; rintro e w1 ⟨rfl, rfl⟩; rw [uh H1])
  go_ret
  exact ⟨rfl, (Below.refl _ _).alloc (Nat.le_refl _) _⟩
 | false =>
  have H1 := hide h1
  clear h1
  go_enter Tryz.func161, Tryz.ntmps161
  go_wp2_with fail
  refine (numBeyond_any _ _).mono ?_
  rintro e w1 ⟨rfl, rfl⟩
  rw [uh H1]
  go_wp2_with fail
  refine (numBeyond_any _ _).mono ?_
  rintro e w1 ⟨rfl, rfl⟩
  go_wp2
  go_ret
  exact ⟨rfl, (Below.refl _ _).alloc (Nat.le_refl _) _⟩
theorem any_take_succ {α : Type} (p : α → Bool) (l : List α) (j : Nat) (h : j < l.length) : (l.take (j + 1)).any p = ((l.take j).any p || p l[j]) := by
 rw [List.take_succ_eq_append_getElem h, List.any_append]; simp only [List.any_cons, List.any_nil, Bool.or_false]
theorem any_of_take {α : Type} {p : α → Bool} {l : List α} {j : Nat} (h : (l.take j).any p = true) : l.any p = true := by
 rw [List.any_eq_true] at h ⊢
 obtain ⟨x, hx, hp⟩ := h
 exact ⟨x, List.mem_of_mem_take hx, hp⟩
theorem below_after {w w1 w2 : World} (h : Below w.heap.size w w1) (g : Below w1.heap.size w1 w2) : Below w.heap.size w w2 := h.trans (g.mono h.size)
theorem testBeyond_cells (t0 : Nat) (t1 t2 t3 : Int) (w : World) :
  Calls Tryz.prog 161 #[.agg #[.int .i64 (t0 : Int), .int .i64 t1, .int .i64 t2, .int .i64 t3]] w fun e w' => e = .returned (.bool (testBeyond ⟨t0, t1, t2, t3⟩)) ∧ Below w.heap.size w w' := testBeyond_any ⟨t0, t1, t2, t3⟩ w
set_option maxRecDepth 100000 in
set_option maxHeartbeats 1600000 in
theorem indexTests_any (v : Value) (ts : List PTest) (w : World) (hv : SlAt w 4 v ts.length (tsCells ts)) (hl : ts.length ≤ 100000) :
  Calls Tryz.prog 172 #[v, .func (.func 161) #[] #[]] w fun e w' => (∃ n : Int, e = .returned (.int .i64 n) ∧ ts.any testBeyond = decide (0 ≤ n)) ∧ Below w.heap.size w w' := by
 obtain ⟨ao, cap, rfl⟩ := hv.form
 have HV := hide hv
 clear hv
 go_enter Tryz.func172, Tryz.ntmps172
 go_wp2_with fail
 go_loopg [8] ts.length (fun g i wr => ∃ j : Nat, j ≤ ts.length ∧ g = ts.length - j ∧ i = .int .i64 (j : Int) ∧ (ts.take j).any testBeyond = false ∧ Below w.heap.size w wr)
 case atStart => exact ⟨0, by omega, rfl, rfl, by simp, Below.refl _ _⟩
 case round =>
  obtain ⟨j, hj, hg, rfl, hno, hb⟩ := hrel
  have A : Aside (gk = ts.length - j ∧ (ts.take j).any testBeyond = false ∧ Below w.heap.size w wr) := ⟨hg, hno, hb⟩
  clear hg hno
  by_cases hlt : j < ts.length
  ·rcases uh HV with ⟨h0, _⟩ | ⟨g, cap', hv, hc, hm, hgl, hx⟩
   ·omega
   simp only [Value.slice.injEq] at hv
   obtain ⟨rfl, _, rfl⟩ := hv
   have key : ∀ i, i < 4 → wr.cell? ⟨g, j * 4 + i, none⟩ = (tcells ts[j])[i]? := fun i hi => by
    rw [hb.cell (p := ⟨g, j * 4 + i, none⟩) hgl, hx _ (by omega)]
    exact flat_at tcells 4 (fun _ => rfl) ts j i hlt hi
   have k0 := key 0 (by omega)
   have k1 := key 1 (by omega)
   have k2 := key 2 (by omega)
   have k3 := key 3 (by omega)
   have HT := hide (any_take_succ testBeyond ts j hlt)
   simp only [tcells, List.getElem?_cons_zero, List.getElem?_cons_succ, Nat.add_zero] at k0 k1 k2 k3
   have hjc : (j : Int) < ts.length := by omega
   clear key hx hb hc hm hgl
   generalize ts[j] = t at *
   obtain ⟨t0, t1, t2, t3⟩ := t
   simp only at k0 k1 k2 k3
   cases hp : testBeyond ⟨t0, t1, t2, t3⟩ with
   | true =>
    have HP := hide hp
    clear hp
    go_wp2_with (go_at_call 161; refine (testBeyond_cells _ _ _ _ _).mono ?_; rintro e w1 ⟨rfl, hb1⟩; rw [uh HP]; have HB := hide (below_after A.out.2.2 hb1); clear hb1)
    go_ret
    refine ⟨⟨_, rfl, ?_⟩, uh HB⟩
    rw [any_of_take (j := j + 1) (by rw [uh HT, A.out.2.1, Bool.false_or]; exact uh HP)]
    simp
   | false =>
    have HP := hide hp
    clear hp
    go_wp2_with (go_at_call 161; refine (testBeyond_cells _ _ _ _ _).mono ?_; rintro e w1 ⟨rfl, hb1⟩; rw [uh HP]; have HB := hide (below_after A.out.2.2 hb1); clear hb1)
    go_roundg (ts.length - (j + 1))
    case measure => have := A.out.1; omega
    case rel => exact ⟨j + 1, by omega, rfl, by go_num, by rw [uh HT, A.out.2.1, Bool.false_or]; exact uh HP, uh HB⟩
  ·have hje : j = ts.length := by omega
   have HJ := hide hje
   have hjc : ¬ (j : Int) < ts.length := by omega
   clear hje hb
   go_wp2
   go_ret
   refine ⟨⟨_, rfl, ?_⟩, A.out.2.2⟩
   have := A.out.2.1
   rw [uh HJ, List.take_length] at this
   rw [this]
   rfl
set_option maxHeartbeats 400000 in
theorem containsTests_any (v : Value) (ts : List PTest) (w : World) (hv : SlAt w 4 v ts.length (tsCells ts)) (hl : ts.length ≤ 100000) :
  Calls Tryz.prog 160 #[v, .func (.func 161) #[] #[]] w fun e w' => e = .returned (.bool (ts.any testBeyond)) ∧ Below w.heap.size w w' := by
 have HV := hide hv
 clear hv
 go_enter Tryz.func160, Tryz.ntmps160
 go_wp2_with fail
 refine (indexTests_any _ _ _ (uh HV) hl).mono ?_
 rintro e w1 ⟨⟨n, rfl, hn⟩, hb⟩
 have HB := hide hb
 have HN := hide hn
 clear hb hn
 go_wp2
 go_ret
 exact ⟨ret_bool (uh HN).symm, uh HB⟩
end Go.Proofs.YtdgbmcbkbkbdoaaGreatDoor
namespace Go.Proofs.YtdgbmcbkbkbdoaaGreatDoor
open Go.RowKit
set_option maxHeartbeats 400000 in
theorem ruleBeyond_any (ao : Option Addr) (cap : Nat) (ts : List PTest) (num : Int) (w : World) (hv : SlAt w 4 (.slice ao ts.length cap) ts.length (tsCells ts)) (hl : ts.length ≤ 100000) :
  Calls Tryz.prog 140 #[.agg #[.slice ao ts.length cap, .int .i64 num]] w fun e w' => e = .returned (.bool (ruleBeyond ⟨ts, num⟩)) ∧ Below w.heap.size w w' := by
 have HV := hide (hv.below ((Below.refl _ w).alloc (Nat.le_refl _) (.cells #[.slice ao ts.length cap, .int .i64 num] 155)))
 clear hv
 simp only [ruleBeyond]
 cases h1 : numBeyond num with
 | true =>
  have H1 := hide h1
  clear h1
  go_enter Tryz.func140, Tryz.ntmps140
  go_wp2_with (go_at_call 59; refine (numBeyond_any _ _).mono ?_; rintro e w1 ⟨rfl, rfl⟩; rw [uh H1])
  go_ret
  exact ⟨rfl, (Below.refl _ _).alloc (Nat.le_refl _) _⟩
 | false =>
  have H1 := hide h1
  clear h1
  go_enter Tryz.func140, Tryz.ntmps140
  go_wp2_with fail
  refine (numBeyond_any _ _).mono ?_
  rintro e w1 ⟨rfl, rfl⟩
  rw [uh H1]
  go_wp2_with fail
  refine (containsTests_any _ _ _ (uh HV) hl).mono ?_
  rintro e w1 ⟨rfl, hb⟩
  have HB := hide hb
  clear hb
  go_wp2
  go_ret
  exact ⟨rfl, below_after ((Below.refl _ _).alloc (Nat.le_refl _) _) (uh HB)⟩
def zcells (y : Value × PRule) : List Value := [y.1, .int .i64 y.2.num]
theorem rcells_z (vs : List Value) (rs : List PRule) : rcells vs rs = (vs.zip rs).flatMap zcells := rfl
set_option maxRecDepth 100000 in
set_option maxHeartbeats 1600000 in
theorem indexRules_any (v : Value) (zs : List (Value × PRule)) (w : World) (hv : SlAt w 2 v zs.length (zs.flatMap zcells)) (ht : ∀ y ∈ zs, SlAt w 4 y.1 y.2.tests.length (tsCells y.2.tests) ∧ y.2.tests.length ≤ 100000) (hl : zs.length ≤ 100000) :
  Calls Tryz.prog 159 #[v, .func (.func 140) #[] #[]] w fun e w' => (∃ n : Int, e = .returned (.int .i64 n) ∧ zs.any (fun y => ruleBeyond y.2) = decide (0 ≤ n)) ∧ Below w.heap.size w w' := by
 obtain ⟨ao, cap, rfl⟩ := hv.form
 have HV := hide hv
 clear hv
 go_enter Tryz.func159, Tryz.ntmps159
 go_wp2_with fail
 go_loopg [8] zs.length (fun g i wr => ∃ j : Nat, j ≤ zs.length ∧ g = zs.length - j ∧ i = .int .i64 (j : Int) ∧ (zs.take j).any (fun y => ruleBeyond y.2) = false ∧ Below w.heap.size w wr)
 case atStart => exact ⟨0, by omega, rfl, rfl, by simp, Below.refl _ _⟩
 case round =>
  obtain ⟨j, hj, hg, rfl, hno, hb⟩ := hrel
  have A : Aside (gk = zs.length - j ∧ (zs.take j).any (fun y => ruleBeyond y.2) = false ∧ Below w.heap.size w wr) := ⟨hg, hno, hb⟩
  clear hg hno
  by_cases hlt : j < zs.length
  ·rcases uh HV with ⟨h0, _⟩ | ⟨g, cap', hv, hc, hm, hgl, hx⟩
   ·omega
   simp only [Value.slice.injEq] at hv
   obtain ⟨rfl, _, rfl⟩ := hv
   have key : ∀ i, i < 2 → wr.cell? ⟨g, j * 2 + i, none⟩ = (zcells zs[j])[i]? := fun i hi => by
    rw [hb.cell (p := ⟨g, j * 2 + i, none⟩) hgl, hx _ (by omega)]
    exact flat_at zcells 2 (fun _ => rfl) zs j i hlt hi
   have k0 := key 0 (by omega)
   have k1 := key 1 (by omega)
   have HT := hide (any_take_succ (fun y => ruleBeyond y.2) zs j hlt)
   simp only [zcells, List.getElem?_cons_zero, List.getElem?_cons_succ, Nat.add_zero] at k0 k1
   have hjc : (j : Int) < zs.length := by omega
   have hy := ht zs[j] (List.getElem_mem hlt)
   have hyb := hy.1.below hb
   have hyl := hy.2
   clear hy
   generalize zs[j] = y at *
   obtain ⟨yv, yts, ynum⟩ := y
   simp only at k0 k1 hyb hyl
   obtain ⟨yo, yc, rfl⟩ := hyb.form
   have HY := hide hyb
   clear hyb
   clear key hx hb hc hm hgl
   cases hp : ruleBeyond ⟨yts, ynum⟩ with
   | true =>
    have HP := hide hp
    clear hp
    go_wp2_with (go_at_call 140; refine (ruleBeyond_any _ _ _ _ _ (by exact uh HY) hyl).mono ?_; rintro e w1 ⟨rfl, hb1⟩; rw [uh HP]; have HB := hide (below_after A.out.2.2 hb1); clear hb1)
    go_ret
    refine ⟨⟨_, rfl, ?_⟩, uh HB⟩
    rw [any_of_take (j := j + 1) (by rw [uh HT, A.out.2.1, Bool.false_or]; exact uh HP)]
    simp
   | false =>
    have HP := hide hp
    clear hp
    go_wp2_with (go_at_call 140; refine (ruleBeyond_any _ _ _ _ _ (by exact uh HY) hyl).mono ?_; rintro e w1 ⟨rfl, hb1⟩; rw [uh HP]; have HB := hide (below_after A.out.2.2 hb1); clear hb1)
    go_roundg (zs.length - (j + 1))
    case measure => have := A.out.1; omega
    case rel => exact ⟨j + 1, by omega, rfl, by go_num, by rw [uh HT, A.out.2.1, Bool.false_or]; exact uh HP, uh HB⟩
  ·have hje : j = zs.length := by omega
   have HJ := hide hje
   have hjc : ¬ (j : Int) < zs.length := by omega
   clear hje hb
   go_wp2
   go_ret
   refine ⟨⟨_, rfl, ?_⟩, A.out.2.2⟩
   have := A.out.2.1
   rw [uh HJ, List.take_length] at this
   rw [this]
   rfl
set_option maxHeartbeats 400000 in
theorem containsRules_any (v : Value) (zs : List (Value × PRule)) (w : World) (hv : SlAt w 2 v zs.length (zs.flatMap zcells)) (ht : ∀ y ∈ zs, SlAt w 4 y.1 y.2.tests.length (tsCells y.2.tests) ∧ y.2.tests.length ≤ 100000) (hl : zs.length ≤ 100000) :
  Calls Tryz.prog 139 #[v, .func (.func 140) #[] #[]] w fun e w' => e = .returned (.bool (zs.any (fun y => ruleBeyond y.2))) ∧ Below w.heap.size w w' := by
 have HV := hide hv
 clear hv
 go_enter Tryz.func139, Tryz.ntmps139
 go_wp2_with fail
 refine (indexRules_any _ _ _ (uh HV) ht hl).mono ?_
 rintro e w1 ⟨⟨n, rfl, hn⟩, hb⟩
 have HB := hide hb
 have HN := hide hn
 clear hb hn
 go_wp2
 go_ret
 exact ⟨ret_bool (uh HN).symm, uh HB⟩
end Go.Proofs.YtdgbmcbkbkbdoaaGreatDoor
namespace Go.Proofs.YtdgbmcbkbkbdoaaGreatDoor
open Go.RowKit
def SmallI (it : PItem) : Prop := it.cols.length ≤ 100000 ∧ it.rules.length ≤ 100000 ∧ ∀ r ∈ it.rules, r.tests.length ≤ 100000
theorem zip_any (vs : List Value) : ∀ (rs : List PRule) (p : PRule → Bool), vs.length = rs.length → (vs.zip rs).any (fun y => p y.2) = rs.any p := by
 induction vs with
 | nil => intro rs p h; cases rs with
  | nil => rfl
  | cons r rs => simp at h
 | cons v vs ih => intro rs p h; cases rs with
  | nil => simp at h
  | cons r rs => simp only [List.zip_cons_cons, List.any_cons]; rw [ih rs p (by simpa using h)]
set_option maxRecDepth 100000 in
set_option maxHeartbeats 1600000 in
theorem itemBeyond_any (x : LItem) (w : World) (hv : ItemV w x) (hl : SmallI x.it) :
  Calls Tryz.prog 113 #[iv x.it x.cv x.rv] w fun e w' => e = .returned (.bool (itemBeyond x.it)) ∧ Below w.heap.size w w' := by
 obtain ⟨it, cv, rv0, vs⟩ := x
 obtain ⟨co, cc, hcv⟩ := hv.1.form
 obtain ⟨ro, rc, hrv⟩ := hv.2.2.1.form
 simp only at hcv hrv
 subst hcv hrv
 have hv2 := hv.below ((Below.refl _ w).alloc (Nat.le_refl _) (.cells (icells it (.slice co it.cols.length cc) (.slice ro it.rules.length rc)) 114))
 have HV := hide hv2
 obtain ⟨hl1, hl2, hl3⟩ := hl
 simp only at hl1 hl2 hl3
 have HL := hide hl3
 clear hv hv2 hl3
 simp only [iv, icells, itemBeyond]
 cases h1 : decide (3 < it.cols.length) with
 | true =>
  have h1b : decide ((3 : Int) < it.cols.length) = true := by simp at h1 ⊢; omega
  clear h1
  go_enter Tryz.func113, Tryz.ntmps113
  go_wp2_with fail
  go_ret
  exact ⟨rfl, (Below.refl _ _).alloc (Nat.le_refl _) _⟩
 | false =>
  have h1b : decide ((3 : Int) < it.cols.length) = false := by simp at h1 ⊢; omega
  clear h1
  cases h2 : decide (8 < it.rules.length) with
  | true =>
   have h2b : decide ((8 : Int) < it.rules.length) = true := by simp at h2 ⊢; omega
   clear h2
   go_enter Tryz.func113, Tryz.ntmps113
   go_wp2_with fail
   go_ret
   exact ⟨rfl, (Below.refl _ _).alloc (Nat.le_refl _) _⟩
  | false =>
   have h2b : decide ((8 : Int) < it.rules.length) = false := by simp at h2 ⊢; omega
   clear h2
   go_enter Tryz.func113, Tryz.ntmps113
   go_wp2_with fail
   have hz : (vs.zip it.rules).length = it.rules.length := by have := (uh HV).2.1; simp at this ⊢; omega
   refine (containsRules_any _ (vs.zip it.rules) _ (by rw [hz]; exact (uh HV).2.2.1) (fun y hy => ⟨(uh HV).2.2.2 y hy, HL.out y.2 (List.of_mem_zip hy).2⟩) (by omega)).mono ?_
   rintro e w1 ⟨rfl, hb⟩
   rw [zip_any vs it.rules ruleBeyond (uh HV).2.1]
   have HB := hide hb
   clear hb hz
   go_wp2
   go_ret
   exact ⟨rfl, below_after ((Below.refl _ _).alloc (Nat.le_refl _) _) (uh HB)⟩
set_option maxRecDepth 100000 in
set_option maxHeartbeats 1600000 in
theorem indexBeyond_any (v : Value) (xs : List LItem) (w : World) (hv : SlAt w 7 v xs.length (xs.flatMap itCells)) (ht : ∀ x ∈ xs, ItemV w x ∧ SmallI x.it) (hl : xs.length ≤ 100000) :
  Calls Tryz.prog 63 #[v, .func (.func 113) #[] #[]] w fun e w' => (∃ n : Int, e = .returned (.int .i64 n) ∧ xs.any (fun x => itemBeyond x.it) = decide (0 ≤ n)) ∧ Below w.heap.size w w' := by
 obtain ⟨ao, cap, rfl⟩ := hv.form
 have HV := hide hv
 clear hv
 go_enter Tryz.func63, Tryz.ntmps63
 go_wp2_with fail
 go_loopg [8] xs.length (fun g i wr => ∃ j : Nat, j ≤ xs.length ∧ g = xs.length - j ∧ i = .int .i64 (j : Int) ∧ (xs.take j).any (fun x => itemBeyond x.it) = false ∧ Below w.heap.size w wr)
 case atStart => exact ⟨0, by omega, rfl, rfl, by simp, Below.refl _ _⟩
 case round =>
  obtain ⟨j, hj, hg, rfl, hno, hb⟩ := hrel
  have A : Aside (gk = xs.length - j ∧ (xs.take j).any (fun x => itemBeyond x.it) = false ∧ Below w.heap.size w wr) := ⟨hg, hno, hb⟩
  clear hg hno
  by_cases hlt : j < xs.length
  ·rcases uh HV with ⟨h0, _⟩ | ⟨g, cap', hv, hc, hm, hgl, hx⟩
   ·omega
   simp only [Value.slice.injEq] at hv
   obtain ⟨rfl, _, rfl⟩ := hv
   have key : ∀ i, i < 7 → wr.cell? ⟨g, j * 7 + i, none⟩ = (itCells xs[j])[i]? := fun i hi => by
    rw [hb.cell (p := ⟨g, j * 7 + i, none⟩) hgl, hx _ (by omega)]
    exact flat_at itCells 7 (fun _ => rfl) xs j i hlt hi
   have k0 := key 0 (by omega)
   have k1 := key 1 (by omega)
   have k2 := key 2 (by omega)
   have k3 := key 3 (by omega)
   have k4 := key 4 (by omega)
   have k5 := key 5 (by omega)
   have k6 := key 6 (by omega)
   have HT := hide (any_take_succ (fun x => itemBeyond x.it) xs j hlt)
   simp only [itCells, icells, List.getElem?_cons_zero, List.getElem?_cons_succ, Nat.add_zero] at k0 k1 k2 k3 k4 k5 k6
   have hjc : (j : Int) < xs.length := by omega
   have hy := ht xs[j] (List.getElem_mem hlt)
   have hyb := hy.1.below hb
   have hyl := hy.2
   clear hy
   generalize xs[j] = x at *
   have HY := hide hyb
   have HL := hide hyl
   clear hyb hyl
   clear key hx hb hc hm hgl
   cases hp : itemBeyond x.it with
   | true =>
    have HP := hide hp
    clear hp
    go_wp2_with (go_at_call 113; refine (itemBeyond_any x _ (by exact uh HY) (uh HL)).mono ?_; rintro e w1 ⟨rfl, hb1⟩; rw [uh HP]; have HB := hide (below_after A.out.2.2 hb1); clear hb1)
    go_ret
    refine ⟨⟨_, rfl, ?_⟩, uh HB⟩
    rw [any_of_take (j := j + 1) (by rw [uh HT, A.out.2.1, Bool.false_or]; exact uh HP)]
    simp
   | false =>
    have HP := hide hp
    clear hp
    go_wp2_with (go_at_call 113; refine (itemBeyond_any x _ (by exact uh HY) (uh HL)).mono ?_; rintro e w1 ⟨rfl, hb1⟩; rw [uh HP]; have HB := hide (below_after A.out.2.2 hb1); clear hb1)
    go_roundg (xs.length - (j + 1))
    case measure => have := A.out.1; omega
    case rel => exact ⟨j + 1, by omega, rfl, by go_num, by rw [uh HT, A.out.2.1, Bool.false_or]; exact uh HP, uh HB⟩
  ·have hje : j = xs.length := by omega
   have HJ := hide hje
   have hjc : ¬ (j : Int) < xs.length := by omega
   clear hje hb
   go_wp2
   go_ret
   refine ⟨⟨_, rfl, ?_⟩, A.out.2.2⟩
   have := A.out.2.1
   rw [uh HJ, List.take_length] at this
   rw [this]
   rfl
set_option maxHeartbeats 400000 in
theorem containsBeyond_any (v : Value) (xs : List LItem) (w : World) (hv : SlAt w 7 v xs.length (xs.flatMap itCells)) (ht : ∀ x ∈ xs, ItemV w x ∧ SmallI x.it) (hl : xs.length ≤ 100000) :
  Calls Tryz.prog 112 #[v, .func (.func 113) #[] #[]] w fun e w' => e = .returned (.bool (xs.any (fun x => itemBeyond x.it))) ∧ Below w.heap.size w w' := by
 have HV := hide hv
 clear hv
 go_enter Tryz.func112, Tryz.ntmps112
 go_wp2_with fail
 refine (indexBeyond_any _ _ _ (uh HV) ht hl).mono ?_
 rintro e w1 ⟨⟨n, rfl, hn⟩, hb⟩
 have HB := hide hb
 have HN := hide hn
 clear hb hn
 go_wp2
 go_ret
 exact ⟨ret_bool (uh HN).symm, uh HB⟩
end Go.Proofs.YtdgbmcbkbkbdoaaGreatDoor
