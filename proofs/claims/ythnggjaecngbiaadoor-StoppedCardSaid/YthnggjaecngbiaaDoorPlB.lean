import Derived.Test.YthnggjaecngbiaaDoorPlA
namespace Go.Proofs.YthnggjaecngbiaaDoor
open Go.RowKit

theorem dd_len : ∀ (k u : Nat), u < 10 ^ (k + 1) → (Lib.decDigits u).length ≤ k + 1
  | 0, u, h => by
    rw [Lib.decDigits, dif_pos (by simpa using h)]; simp
  | k + 1, u, h => by
    rw [Lib.decDigits]
    split
    · simp
    · have := dd_len k (u / 10) (by rw [Nat.pow_succ] at h; omega)
      simp; omega
theorem itoa_len {n : Int} (h : -9999999 ≤ n) (h' : n ≤ 9999999) : (Lib.itoa n).length ≤ 8 := by
  unfold Lib.itoa
  split
  · have := dd_len 6 n.natAbs (by have : (10 : Nat) ^ (6 + 1) = 10000000 := by decide
                                  omega)
    simp; omega
  · have := dd_len 6 n.toNat (by have : (10 : Nat) ^ (6 + 1) = 10000000 := by decide
                                 omega)
    omega

def Tab (w : World) : Prop := Lib.TabIs Tryd.prog w "internal/strconv.uint64pow10" .u64 Lib.pow10Tab

theorem tab_below {W w : World} (h : Below W.heap.size W w) (ht : Tab W) : Tab w := by
  unfold Tab Lib.TabIs at ht ⊢
  cases hg : Tryd.prog.globalNamed "internal/strconv.uint64pow10" with
  | none => unfold World.var? at ht; simp [hg] at ht
  | some g =>
    refine var?_below h hg ?_ ht
    rcases Nat.lt_or_ge g W.heap.size with h1 | h1
    · exact h1
    · unfold World.var? at ht
      simp [hg, Array.getElem?_eq_none h1] at ht

theorem below_grow (w : World) (k : Nat) (os : Array Obj) : Below w.heap.size w (Sort.grow (w.drewN k) os) :=
  ⟨rfl, rfl, rfl, by simp [Sort.grow], fun j hj => by simp [Sort.grow, Array.getElem?_append, hj]⟩

theorem itoa_any (n : Int) (w : World) (h : -9999999 ≤ n) (h' : n ≤ 9999999) (ht : Tab w) :
    Calls Tryd.prog 37 #[.int .i64 n] w fun e w' => e = .returned (.string ⟨(Lib.itoa n).toArray⟩) ∧ Below w.heap.size w w' := by
  refine (Tryd.strconv_Itoa n (by omega) (by omega) w ht).mono ?_
  rintro e w' ⟨he, k, os, rfl⟩
  exact ⟨he, below_grow w k os⟩

theorem ret_str {x : ByteArray} {l : List UInt8} (h : x.data.toList = l) : Ending.returned (.string x) = .returned (.string ⟨l.toArray⟩) := by
  rw [← h]

/-- A test without the signs ahead of it. -/
def bareOut (t : PTest) : List UInt8 :=
  if t.kind = 1 then [110, 111, 110, 101]
  else if t.kind = 2 then [99, 108, 97, 115, 104]
  else if t.kind = 3 then Lib.itoa t.low
  else if t.kind = 4 then Lib.itoa t.low ++ [46, 46] ++ Lib.itoa t.high
  else if t.kind = 5 then [60] ++ Lib.itoa t.low
  else if t.kind = 6 then [62] ++ Lib.itoa t.low
  else [95]
theorem bareOut_len {t : PTest} (h : WfT t) : (bareOut t).length ≤ 18 := by
  have h1 := itoa_len h.low.1 h.low.2
  have h2 := itoa_len h.high.1 h.high.2
  unfold bareOut
  repeat' split
  all_goals simp
  all_goals omega

set_option maxRecDepth 100000 in
set_option maxHeartbeats 3200000 in
theorem bareTestOut_any (t : PTest) (W0 w : World) (hw : WfT t) (hb : Below W0.heap.size W0 w) (ht : Tab W0) :
    Calls Tryd.prog 36 #[tv t] w fun e w' => e = .returned (.string ⟨(bareOut t).toArray⟩) ∧ Below w.heap.size w w' := by
  have hlo := hw.low
  have hhi := hw.high
  have hk := hw.kind
  have l1 := itoa_len hlo.1 hlo.2
  have l2 := itoa_len hhi.1 hhi.2
  obtain ⟨t0, t1, t2, t3⟩ := t
  simp only at hlo hhi hk l1 l2
  have hb1 : Below W0.heap.size W0 (w.alloc (.cells #[.int .i64 (t0 : Int), .int .i64 t1, .int .i64 t2, .int .i64 t3] 74)) := hb.alloc hb.size _
  have HT := hide (tab_below hb1 ht)
  simp only [tv]
  go_enter Tryd.func36, Tryd.ntmps36
  go_wp2_with fail
  refine (itoa_any _ _ hlo.1 hlo.2 (unhide HT)).mono ?_
  rintro e w1 ⟨rfl, hb2⟩
  have HT1 := hide (tab_below hb2 (unhide HT))
  have HB := hide (below_after ((Below.refl _ w).alloc (Nat.le_refl _) _) hb2)
  obtain ⟨c0, c1, c2, c3, f0, f1, f2, f3⟩ := cells4 ((hb2.block w.heap.size (by simp)).trans (alloc_last w _))
  obtain ⟨d1, hd1⟩ : ∃ d : ByteArray, (⟨(Lib.itoa t2).toArray⟩ : ByteArray) = d := ⟨_, rfl⟩
  have hs1 : d1.size ≤ 8 := by rw [← hd1]; show (Lib.itoa t2).toArray.size ≤ 8; simpa using l1
  rw [hd1]
  have HD1 : Hid (d1.data.toList = Lib.itoa t2) := hide (by rw [← hd1])
  clear hb2 hd1 hb1 hb ht HT hw
  rcases (by omega : t1 = 0 ∨ t1 = 1 ∨ t1 = 2 ∨ t1 = 3 ∨ t1 = 4 ∨ t1 = 5 ∨ t1 = 6) with e | e | e | e | e | e | e
  all_goals subst e
  case inr.inr.inr.inr.inl =>
    go_wp2_with fail
    refine (itoa_any _ _ hhi.1 hhi.2 (unhide HT1)).mono ?_
    rintro e w2 ⟨rfl, hb3⟩
    have HB3 := hide (below_after (unhide HB) hb3)
    obtain ⟨d2, hd2⟩ : ∃ d : ByteArray, (⟨(Lib.itoa t3).toArray⟩ : ByteArray) = d := ⟨_, rfl⟩
    have hs2 : d2.size ≤ 8 := by rw [← hd2]; show (Lib.itoa t3).toArray.size ≤ 8; simpa using l2
    rw [hd2]
    have HD2 : Hid (d2.data.toList = Lib.itoa t3) := hide (by rw [← hd2])
    clear hb3 hd2
    go_wp2_with fail
    go_ret
    refine ⟨ret_str ?_, unhide HB3⟩
    simp only [bareOut]
    simp [unhide HD1, unhide HD2]
  all_goals
    go_wp2_with fail
    go_ret
    refine ⟨ret_str ?_, unhide HB⟩
    simp only [bareOut]
    simp [unhide HD1]

/-- A test as it stands. -/
def testOut (t : PTest) : List UInt8 := Lib.repeatL [33] t.nots ++ bareOut t
theorem testOut_len {t : PTest} (h : WfT t) : (testOut t).length ≤ 1018 := by
  have h1 := bareOut_len h
  have h2 := h.nots
  unfold testOut
  rw [List.length_append, Lib.repeatL_length]
  simp; omega
/-- Tests with the sign between each. -/
def tOuts : Bool → List PTest → List UInt8
  | _, [] => []
  | true, t :: ts => [44] ++ testOut t ++ tOuts true ts
  | false, t :: ts => testOut t ++ tOuts true ts
theorem tOuts_snoc (b : Bool) : ∀ (ts : List PTest) (t : PTest), tOuts b (ts ++ [t]) = tOuts b ts ++ (if b = false ∧ ts = [] then [] else [44]) ++ testOut t := by
  intro ts
  induction ts generalizing b with
  | nil => intro t; cases b <;> simp [tOuts]
  | cons x ts ih => intro t; cases b <;> simp [tOuts, ih]
theorem tOuts_len (b : Bool) (ts : List PTest) (h : ∀ t ∈ ts, WfT t) : (tOuts b ts).length ≤ ts.length * 1019 := by
  induction ts generalizing b with
  | nil => simp [tOuts]
  | cons x ts ih =>
    have h1 := testOut_len (h x (by simp))
    have h2 := ih true (fun t ht => h t (by simp [ht]))
    cases b <;> simp [tOuts] <;> omega
def ruleOut (r : PRule) : List UInt8 := tOuts false r.tests ++ [61] ++ Lib.itoa r.num ++ [59]
theorem ruleOut_len {r : PRule} (h : WfR r) : (ruleOut r).length ≤ 1100000 := by
  have h1 := tOuts_len false r.tests h.tests
  have h2 := itoa_len h.num.1 h.num.2
  have h3 := h.len
  unfold ruleOut
  simp
  omega

end Go.Proofs.YthnggjaecngbiaaDoor
