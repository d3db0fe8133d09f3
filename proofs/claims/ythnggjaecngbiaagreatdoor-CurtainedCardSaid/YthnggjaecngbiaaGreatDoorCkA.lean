import Derived.Test.YthnggjaecngbiaaGreatDoorRdO
namespace Go.Proofs.YthnggjaecngbiaaGreatDoor
open Go.RowKit

theorem flat_at {α : Type} (f : α → List Value) (m : Nat) (hm : ∀ x, (f x).length = m) : ∀ (l : List α) (i j : Nat) (h : i < l.length), j < m → (l.flatMap f)[i * m + j]? = (f l[i])[j]?
  | [], i, j, h, _ => by simp at h
  | x :: l, 0, j, h, hj => by
    simp only [List.flatMap_cons, Nat.zero_mul, Nat.zero_add, List.getElem_cons_zero]
    rw [List.getElem?_append_left (by rw [hm]; exact hj)]
  | x :: l, i + 1, j, h, hj => by
    simp only [List.flatMap_cons, List.getElem_cons_succ]
    rw [List.getElem?_append_right (by rw [hm, Nat.add_mul]; omega), hm, show (i + 1) * m + j - m = i * m + j by rw [Nat.add_mul]; omega]
    exact flat_at f m hm l i j (by simpa using h) hj

/-- A slice from the head of a block on, to be read. -/
def SlAt (w : World) (size : Nat) (v : Value) (n : Nat) (xs : List Value) : Prop :=
  (n = 0 ∧ ∃ ao cap, v = .slice ao 0 cap) ∨ ∃ g cap, v = .slice (some ⟨g, 0, none⟩) n cap ∧ n ≤ cap ∧ cap ≤ maxLen ∧ g < w.heap.size ∧ ∀ j, j < n * size → w.cell? ⟨g, j, none⟩ = xs[j]?

theorem SlAt.of_owns {w : World} {base : Nat} {e : TypeId} {size : Nat} {v : Value} {n : Nat} {xs : List Value} (h : w.ownsRow base e size v n xs) : SlAt w size v n xs := by
  obtain ⟨h1, h2⟩ := h
  rcases h2 with ⟨rfl, rfl⟩ | ⟨g, cap, cur, rfl, hg, hh, hc, hm, hs, ht⟩
  · exact Or.inl ⟨rfl, none, 0, rfl⟩
  · refine Or.inr ⟨g, cap, rfl, hc, hm, lt_of_block hh, fun j hj => ?_⟩
    rw [← ht, List.getElem?_take_of_lt hj]
    simp [World.cell?, hh]
theorem SlAt.below {w w' : World} {size : Nat} {v : Value} {n : Nat} {xs : List Value} (h : SlAt w size v n xs) (g : Below w.heap.size w w') : SlAt w' size v n xs := by
  rcases h with h | ⟨b, cap, hv, hc, hm, hb, hx⟩
  · exact Or.inl h
  · exact Or.inr ⟨b, cap, hv, hc, hm, Nat.lt_of_lt_of_le hb g.size, fun j hj => by rw [g.cell (p := ⟨b, j, none⟩) hb]; exact hx j hj⟩
theorem SlAt.form {w : World} {size : Nat} {v : Value} {n : Nat} {xs : List Value} (h : SlAt w size v n xs) : ∃ ao cap, v = .slice ao n cap := by
  rcases h with ⟨rfl, ao, cap, rfl⟩ | ⟨b, cap, hv, _⟩
  · exact ⟨_, _, rfl⟩
  · exact ⟨_, _, hv⟩
/-- The first i of them. -/
theorem SlAt.take {w : World} {size : Nat} {g n cap : Nat} {xs : List Value} (hc : n ≤ cap) (hm : cap ≤ maxLen) (hg : g < w.heap.size) (h : ∀ j, j < n * size → w.cell? ⟨g, j, none⟩ = xs[j]?) {i : Nat} (hi : i ≤ n) : SlAt w size (.slice (some ⟨g, 0, none⟩) i cap) i (xs.take (i * size)) :=
  Or.inr ⟨g, cap, rfl, by omega, hm, hg, fun j hj => by
    rw [List.getElem?_take_of_lt hj]
    exact h j (Nat.lt_of_lt_of_le hj (Nat.mul_le_mul_right size hi))⟩

def RulesV (w : World) (v : Value) (vs : List Value) (rs : List PRule) : Prop :=
  vs.length = rs.length ∧ SlAt w 2 v rs.length (rcells vs rs) ∧ ∀ x ∈ vs.zip rs, SlAt w 4 x.1 x.2.tests.length (tsCells x.2.tests)
def ItemV (w : World) (x : LItem) : Prop := SlAt w 1 x.cv x.it.cols.length (x.it.cols.map Value.string) ∧ RulesV w x.rv x.vs x.it.rules
def ItemsV (w : World) (v : Value) (xs : List LItem) : Prop := SlAt w 7 v xs.length (xs.flatMap itCells) ∧ ∀ x ∈ xs, ItemV w x
theorem RulesV.below {w w' : World} {v : Value} {vs : List Value} {rs : List PRule} (h : RulesV w v vs rs) (g : Below w.heap.size w w') : RulesV w' v vs rs := ⟨h.1, h.2.1.below g, fun x hx => (h.2.2 x hx).below g⟩
theorem ItemV.below {w w' : World} {x : LItem} (h : ItemV w x) (g : Below w.heap.size w w') : ItemV w' x := ⟨h.1.below g, h.2.below g⟩
theorem ItemsV.below {w w' : World} {v : Value} {xs : List LItem} (h : ItemsV w v xs) (g : Below w.heap.size w w') : ItemsV w' v xs := ⟨h.1.below g, fun x hx => (h.2 x hx).below g⟩
theorem ItemsV.of_at {w : World} {base : Nat} {v : Value} {xs : List LItem} (h : ItemsAt base w v xs) : ItemsV w v xs :=
  ⟨SlAt.of_owns h.1, fun x hx => ⟨SlAt.of_owns (h.2 x hx).1, (h.2 x hx).2.1, SlAt.of_owns (h.2 x hx).2.2.1, fun y hy => SlAt.of_owns ((h.2 x hx).2.2.2 y hy)⟩⟩

def numBeyond (n : Int) : Bool := decide (1000000 < n ∨ n < -1000000)
def testBeyond (t : PTest) : Bool := numBeyond t.low || numBeyond t.high
def ruleBeyond (r : PRule) : Bool := numBeyond r.num || r.tests.any testBeyond
def itemBeyond (it : PItem) : Bool := decide (3 < it.cols.length) || decide (8 < it.rules.length) || it.rules.any ruleBeyond
def beyondB (its : List PItem) : Bool := decide (12 < its.length) || its.any itemBeyond

set_option maxHeartbeats 400000 in
theorem numBeyond_any (n : Int) (w : World) :
    Calls Tryz.prog 68 #[.int .i64 n] w fun e w' => e = .returned (.bool (numBeyond n)) ∧ w' = w := by
  by_cases h1 : 1000000 < n
  · have h2 : decide (1000000 < n) = true := by simpa using h1
    go_enter Tryz.func68, Tryz.ntmps68
    go_wp2
    go_ret
    refine ⟨ret_bool ?_, rfl⟩
    simp [numBeyond, h1]
  · have h2 : decide (1000000 < n) = false := by simpa using h1
    go_enter Tryz.func68, Tryz.ntmps68
    go_wp2
    go_ret
    refine ⟨ret_bool ?_, rfl⟩
    have h1' : ¬ 1000000 < n := by omega
    simp [numBeyond, h1']

set_option maxHeartbeats 400000 in
theorem testBeyond_any (t : PTest) (w : World) :
    Calls Tryz.prog 180 #[tv t] w fun e w' => e = .returned (.bool (testBeyond t)) ∧ Below w.heap.size w w' := by
  obtain ⟨t0, t1, t2, t3⟩ := t
  simp only [tv, testBeyond]
  cases h1 : numBeyond t2 with
  | true =>
    have H1 := hide h1
    clear h1
    go_enter Tryz.func180, Tryz.ntmps180
    go_wp2_with (go_at_call 68; refine (numBeyond_any _ _).mono ?_; rintro e w1 ⟨rfl, rfl⟩; rw [unhide H1])
    go_ret
    exact ⟨rfl, (Below.refl _ _).alloc (Nat.le_refl _) _⟩
  | false =>
    have H1 := hide h1
    clear h1
    go_enter Tryz.func180, Tryz.ntmps180
    go_wp2_with fail
    refine (numBeyond_any _ _).mono ?_
    rintro e w1 ⟨rfl, rfl⟩
    rw [unhide H1]
    go_wp2_with fail
    refine (numBeyond_any _ _).mono ?_
    rintro e w1 ⟨rfl, rfl⟩
    go_wp2
    go_ret
    exact ⟨rfl, (Below.refl _ _).alloc (Nat.le_refl _) _⟩

theorem any_take_succ {α : Type} (p : α → Bool) (l : List α) (j : Nat) (h : j < l.length) : (l.take (j + 1)).any p = ((l.take j).any p || p l[j]) := by
  rw [List.take_succ_eq_append_getElem h, List.any_append]; simp only [List.any_cons, List.any_nil, Bool.or_false]
theorem any_of_take {α : Type} {p : α → Bool} {l : List α} {j : Nat} (h : (l.take j).any p = true) : l.any p = true := by
  rw [List.any_eq_true] at h ⊢
  obtain ⟨x, hx, hp⟩ := h
  exact ⟨x, List.mem_of_mem_take hx, hp⟩
theorem below_after {w w1 w2 : World} (h : Below w.heap.size w w1) (g : Below w1.heap.size w1 w2) : Below w.heap.size w w2 := h.trans (g.mono h.size)

theorem testBeyond_cells (t0 : Nat) (t1 t2 t3 : Int) (w : World) :
    Calls Tryz.prog 180 #[.agg #[.int .i64 (t0 : Int), .int .i64 t1, .int .i64 t2, .int .i64 t3]] w fun e w' => e = .returned (.bool (testBeyond ⟨t0, t1, t2, t3⟩)) ∧ Below w.heap.size w w' := testBeyond_any ⟨t0, t1, t2, t3⟩ w

set_option maxRecDepth 100000 in
set_option maxHeartbeats 1600000 in
theorem indexTests_any (v : Value) (ts : List PTest) (w : World) (hv : SlAt w 4 v ts.length (tsCells ts)) (hl : ts.length ≤ 100000) :
    Calls Tryz.prog 196 #[v, .func (.func 180) #[] #[]] w fun e w' => (∃ n : Int, e = .returned (.int .i64 n) ∧ ts.any testBeyond = decide (0 ≤ n)) ∧ Below w.heap.size w w' := by
  obtain ⟨ao, cap, rfl⟩ := hv.form
  have HV := hide hv
  clear hv
  go_enter Tryz.func196, Tryz.ntmps196
  go_wp2_with fail
  go_loopg [8] ts.length (fun g i wr => ∃ j : Nat, j ≤ ts.length ∧ g = ts.length - j ∧ i = .int .i64 (j : Int) ∧ (ts.take j).any testBeyond = false ∧ Below w.heap.size w wr)
  case atStart => exact ⟨0, by omega, rfl, rfl, by simp, Below.refl _ _⟩
  case round =>
    obtain ⟨j, hj, hg, rfl, hno, hb⟩ := hrel
    have A : Aside (gk = ts.length - j ∧ (ts.take j).any testBeyond = false ∧ Below w.heap.size w wr) := ⟨hg, hno, hb⟩
    clear hg hno
    by_cases hlt : j < ts.length
    · rcases unhide HV with ⟨h0, _⟩ | ⟨g, cap', hv, hc, hm, hgl, hx⟩
      · omega
      simp only [Value.slice.injEq] at hv
      obtain ⟨rfl, _, rfl⟩ := hv
      have key : ∀ i, i < 4 → wr.cell? ⟨g, j * 4 + i, none⟩ = (tcells ts[j])[i]? := fun i hi => by
        rw [hb.cell (p := ⟨g, j * 4 + i, none⟩) hgl, hx _ (by omega)]
        exact flat_at tcells 4 (fun _ => rfl) ts j i hlt hi
      have k0 := key 0 (by omega)
      have k1 := key 1 (by omega)
      have k2 := key 2 (by omega)
      have k3 := key 3 (by omega)
      have HT := hide (any_take_succ testBeyond ts j hlt)
      simp only [tcells, List.getElem?_cons_zero, List.getElem?_cons_succ, Nat.add_zero] at k0 k1 k2 k3
      have hjc : (j : Int) < ts.length := by omega
      clear key hx hb hc hm hgl
      generalize ts[j] = t at *
      obtain ⟨t0, t1, t2, t3⟩ := t
      simp only at k0 k1 k2 k3
      cases hp : testBeyond ⟨t0, t1, t2, t3⟩ with
      | true =>
        have HP := hide hp
        clear hp
        go_wp2_with (go_at_call 180; refine (testBeyond_cells _ _ _ _ _).mono ?_; rintro e w1 ⟨rfl, hb1⟩; rw [unhide HP]; have HB := hide (below_after A.out.2.2 hb1); clear hb1)
        go_ret
        refine ⟨⟨_, rfl, ?_⟩, unhide HB⟩
        rw [any_of_take (j := j + 1) (by rw [unhide HT, A.out.2.1, Bool.false_or]; exact unhide HP)]
        simp
      | false =>
        have HP := hide hp
        clear hp
        go_wp2_with (go_at_call 180; refine (testBeyond_cells _ _ _ _ _).mono ?_; rintro e w1 ⟨rfl, hb1⟩; rw [unhide HP]; have HB := hide (below_after A.out.2.2 hb1); clear hb1)
        go_roundg (ts.length - (j + 1))
        case measure => have := A.out.1; omega
        case rel => exact ⟨j + 1, by omega, rfl, by go_num, by rw [unhide HT, A.out.2.1, Bool.false_or]; exact unhide HP, unhide HB⟩
    · have hje : j = ts.length := by omega
      have HJ := hide hje
      have hjc : ¬ (j : Int) < ts.length := by omega
      clear hje hb
      go_wp2
      go_ret
      refine ⟨⟨_, rfl, ?_⟩, A.out.2.2⟩
      have := A.out.2.1
      rw [unhide HJ, List.take_length] at this
      rw [this]
      rfl

set_option maxHeartbeats 400000 in
theorem containsTests_any (v : Value) (ts : List PTest) (w : World) (hv : SlAt w 4 v ts.length (tsCells ts)) (hl : ts.length ≤ 100000) :
    Calls Tryz.prog 179 #[v, .func (.func 180) #[] #[]] w fun e w' => e = .returned (.bool (ts.any testBeyond)) ∧ Below w.heap.size w w' := by
  have HV := hide hv
  clear hv
  go_enter Tryz.func179, Tryz.ntmps179
  go_wp2_with fail
  refine (indexTests_any _ _ _ (unhide HV) hl).mono ?_
  rintro e w1 ⟨⟨n, rfl, hn⟩, hb⟩
  have HB := hide hb
  have HN := hide hn
  clear hb hn
  go_wp2
  go_ret
  exact ⟨ret_bool (unhide HN).symm, unhide HB⟩

end Go.Proofs.YthnggjaecngbiaaGreatDoor
