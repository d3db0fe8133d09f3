import Derived.Test.YthnggjaecngbiaaGreatDoorWrA
namespace Go.Proofs.YthnggjaecngbiaaGreatDoor
open Go.RowKit

set_option maxHeartbeats 400000 in
theorem seen_any (l c : Nat) (w : World) (hl : l ≤ 7) (hc : c ≤ 7) :
    Calls Tryz.prog 19 #[.int .i64 (l : Int), .int .i64 (c : Int)] w fun e w' => e = .returned (.bool (seenB l c)) ∧ w' = w := by
  have HB : Hid (bits .and .i64 (l : Int) (7 - (c : Int)) = ((l &&& (7 - c) : Nat) : Int)) := hide (by
    have key : ∀ a : Fin 8, ∀ b : Fin 8, bits .and .i64 (a.val : Int) (7 - (b.val : Int)) = ((a.val &&& (7 - b.val) : Nat) : Int) := by decide
    exact key ⟨l, by omega⟩ ⟨c, by omega⟩)
  go_enter Tryz.func19, Tryz.ntmps19
  go_wp2
  go_ret
  refine ⟨ret_bool ?_, rfl⟩
  rw [unhide HB]
  unfold seenB
  rw [Bool.eq_iff_iff]
  simp

/-- What the lists become: where a reader may know an input, the first one's value. -/
def mixTo (its : List PItem) (ls : List Nat) (c : Nat) (V W : List Int) : Nat → List Int
  | 0 => W
  | j + 1 => if (its.getD j noItem).isT then mixTo its ls c V W j else if seenB (ls.getD j 0) c then (mixTo its ls c V W j).set (inputsTo its j) (V.getD (inputsTo its j) 0) else mixTo its ls c V W j
theorem mixTo_len (its : List PItem) (ls : List Nat) (c : Nat) (V W : List Int) : ∀ j, (mixTo its ls c V W j).length = W.length
  | 0 => rfl
  | j + 1 => by
    rw [mixTo]
    repeat' split
    all_goals simp [mixTo_len its ls c V W j]
theorem mixTo_bd {its : List PItem} {ls : List Nat} {c : Nat} {V W : List Int} (hV : ∀ x ∈ V, -1000000 ≤ x ∧ x ≤ 1000000) (hW : ∀ x ∈ W, -1000000 ≤ x ∧ x ≤ 1000000) : ∀ j, ∀ x ∈ mixTo its ls c V W j, -1000000 ≤ x ∧ x ≤ 1000000
  | 0 => hW
  | j + 1 => by
    intro x hx
    rw [mixTo] at hx
    split at hx
    · exact mixTo_bd hV hW j x hx
    split at hx
    · rcases List.mem_or_eq_of_mem_set hx with h | h
      · exact mixTo_bd hV hW j x h
      · rw [h, List.getD_eq_getElem?_getD]
        cases hq : V[inputsTo its j]? with
        | none => simp
        | some y => exact hV y (List.mem_of_getElem? hq)
    · exact mixTo_bd hV hW j x hx
theorem mixTo_get {its : List PItem} {ls : List Nat} {c : Nat} {V W : List Int} {i : Nat} (hi : i < its.length) (hT : its[i].isT = false) (hs : seenB (ls.getD i 0) c = true) (hl : inputsTo its i < W.length) : ∀ j, i < j → j ≤ its.length → (mixTo its ls c V W j).getD (inputsTo its i) 0 = V.getD (inputsTo its i) 0
  | 0, h, _ => by omega
  | j + 1, h, hj => by
    rw [mixTo]
    by_cases he : i = j
    · subst he
      rw [getD_at its noItem hi, hT, if_neg (by simp), hs, if_pos rfl]
      rw [List.getD_eq_getElem?_getD, List.getElem?_set_self (by rw [mixTo_len]; exact hl)]
      rfl
    · have ih := mixTo_get (W := W) (V := V) hi hT hs hl j (by omega) (by omega)
      split
      · exact ih
      split
      · have h1 := inputsTo_succ hi
        rw [hT, if_neg (by simp)] at h1
        have h2 := inputsTo_mono its (i := i + 1) (j := j) (by omega)
        rw [List.getD_eq_getElem?_getD, List.getElem?_set_ne (by omega), ← List.getD_eq_getElem?_getD]
        exact ih
      · exact ih
theorem fits_of_bd {its : List PItem} {l : List Int} (hl : l.length = inputsP its) (h : ∀ x ∈ l, -1000000 ≤ x ∧ x ≤ 1000000) : fitsP its l = true := by
  unfold fitsP
  rw [hl]
  simp only [decide_true, Bool.true_and, Bool.not_eq_true', List.any_eq_false]
  intro x hx
  have := h x hx
  unfold numBeyond
  simp
  omega
/-- The tables ahead of an item: how many; its value among theirs. -/
theorem tabsTo_prefix (its : List PItem) (rs : List (PVal × List Nat)) (j : Nat) : ∀ m, ∃ r, tabsTo its rs (j + m) = tabsTo its rs j ++ r
  | 0 => ⟨[], by simp⟩
  | m + 1 => by
    obtain ⟨r, hr⟩ := tabsTo_prefix its rs j m
    exact ⟨r ++ _, by rw [← Nat.add_assoc, tabsTo, hr, List.append_assoc]⟩
theorem tabsTo_at {its : List PItem} {rs : List (PVal × List Nat)} {j : Nat} (hj : j < its.length) (hT : its[j].isT = true) : (tabsTo its rs its.length)[(tabsTo its rs j).length]? = some (rs.getD j (PVal.zero, [])).1 := by
  obtain ⟨r, hr⟩ := tabsTo_prefix its rs (j + 1) (its.length - (j + 1))
  rw [show j + 1 + (its.length - (j + 1)) = its.length by omega] at hr
  rw [hr, tabsTo, getD_at its noItem hj, hT, if_pos rfl, List.append_assoc, List.getElem?_append_right (Nat.le_refl _), Nat.sub_self]
  rfl
theorem tabsTo_count {its : List PItem} {rs : List (PVal × List Nat)} : ∀ j, j ≤ its.length → (tabsTo its rs j).length + inputsTo its j = j
  | 0, _ => by simp [tabsTo, inputsTo]
  | j + 1, h => by
    have ih := tabsTo_count (its := its) (rs := rs) j (by omega)
    rw [tabsTo, List.length_append, inputsTo_succ (by omega), getD_at its noItem (by omega)]
    cases its[j].isT <;> simp <;> omega

theorem owns_set1 {w : World} {base : Nat} {e : TypeId} {g n cap i : Nat} {xs : List Value} (h : w.ownsRow base e 1 (.slice (some ⟨g, 0, none⟩) n cap) n xs) (hi : i < n) (x : Value) :
    (w.setCell ⟨g, i, none⟩ x).ownsRow base e 1 (.slice (some ⟨g, 0, none⟩) n cap) n (xs.set i x) ∧ w.cell? ⟨g, i, none⟩ = xs[i]? ∧ w.frozen? ⟨g, i, none⟩ = false ∧ base ≤ g ∧ ∃ c, w.heap[g]? = some (.cells c e) := by
  obtain ⟨h1, h2⟩ := h
  rcases h2 with ⟨h2, _⟩ | ⟨g', cap', cur, hv, hg, hh, hc, hm, hs, ht⟩
  · cases h2
  · simp only [Value.slice.injEq, Option.some.injEq, Addr.mk.injEq] at hv
    obtain ⟨⟨rfl, _⟩, _, rfl⟩ := hv
    refine ⟨⟨by simpa using h1, Or.inr ⟨g, cap, cur.setIfInBounds i x, rfl, hg, heap_set_same hh x, hc, hm, by simpa using hs, ?_⟩⟩, ?_, ?_, hg, _, hh⟩
    · rw [Array.toList_setIfInBounds, List.take_set, ht]
    · rw [← ht, List.getElem?_take_of_lt (by omega)]
      simp [World.cell?, hh]
    · simp [World.frozen?, hh]
end Go.Proofs.YthnggjaecngbiaaGreatDoor
