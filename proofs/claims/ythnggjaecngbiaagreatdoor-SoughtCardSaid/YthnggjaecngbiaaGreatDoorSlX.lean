import Derived.Test.YthnggjaecngbiaaGreatDoorCkA
namespace Go.Proofs.YthnggjaecngbiaaGreatDoor
open Go.RowKit

theorem SlAt.len_le {w : World} {size : Nat} {v : Value} {n : Nat} {xs : List Value} (h : SlAt w size v n xs) : n ≤ 9223372036854775807 := by
  rcases h with ⟨h0, _⟩ | ⟨g, cap, _, h1, h2, _⟩
  · omega
  · unfold maxLen at h2; omega
theorem SlAt.at1 {w : World} {ao : Option Addr} {n cap : Nat} {xs : List Value} (h : SlAt w 1 (.slice ao n cap) n xs) {j : Nat} (hj : j < n) : ∃ g, ao = some ⟨g, 0, none⟩ ∧ w.cell? ⟨g, j, none⟩ = xs[j]? ∧ g < w.heap.size := by
  rcases h with ⟨h0, _⟩ | ⟨g, cap', hv, h1, h2, h3, h4⟩
  · omega
  · simp only [Value.slice.injEq] at hv
    exact ⟨g, hv.1, h4 j (by omega), h3⟩
theorem SlAt.at2 {w : World} {ao : Option Addr} {n cap : Nat} {xs : List Value} (h : SlAt w 2 (.slice ao n cap) n xs) {j : Nat} (hj : j < n) : ∃ g, ao = some ⟨g, 0, none⟩ ∧ w.cell? ⟨g, j * 2, none⟩ = xs[j * 2]? ∧ w.cell? ⟨g, j * 2 + 1, none⟩ = xs[j * 2 + 1]? ∧ g < w.heap.size := by
  rcases h with ⟨h0, _⟩ | ⟨g, cap', hv, h1, h2, h3, h4⟩
  · omega
  · simp only [Value.slice.injEq] at hv
    exact ⟨g, hv.1, h4 _ (by omega), h4 _ (by omega), h3⟩
/-- Numbers that came in. -/
def InSl (w : World) (v : Value) (vals : List Int) : Prop :=
  (vals = [] ∧ ∃ ao cap, v = .slice ao 0 cap) ∨ ∃ g off cap, v = .slice (some ⟨g, off, none⟩) vals.length cap ∧ vals.length ≤ cap ∧ cap ≤ maxLen ∧ g < w.heap.size ∧ ∀ j x, vals[j]? = some x → w.cell? ⟨g, off + j, none⟩ = some (.int .i64 x)
theorem InSl.form {w : World} {v : Value} {vals : List Int} (h : InSl w v vals) : ∃ ao cap, v = .slice ao vals.length cap := by
  rcases h with ⟨rfl, ao, cap, rfl⟩ | ⟨g, off, cap, rfl, _⟩
  · exact ⟨ao, cap, rfl⟩
  · exact ⟨_, _, rfl⟩
theorem InSl.below {w w' : World} {v : Value} {vals : List Int} (h : InSl w v vals) (b : Below w.heap.size w w') : InSl w' v vals := by
  rcases h with h | ⟨g, off, cap, h1, h2, h3, h4, h5⟩
  · exact Or.inl h
  · exact Or.inr ⟨g, off, cap, h1, h2, h3, Nat.lt_of_lt_of_le h4 b.size, fun j x hx => by rw [b.cell (p := ⟨g, off + j, none⟩) h4]; exact h5 j x hx⟩
theorem InSl.at {w : World} {ao : Option Addr} {n cap : Nat} {vals : List Int} (h : InSl w (.slice ao n cap) vals) {j : Nat} (hj : j < vals.length) : ∃ g off, ao = some ⟨g, off, none⟩ ∧ w.cell? ⟨g, off + j, none⟩ = some (.int .i64 vals[j]) ∧ g < w.heap.size := by
  rcases h with ⟨h0, _⟩ | ⟨g, off, cap', hv, h1, h2, h3, h4⟩
  · rw [h0] at hj; simp at hj
  · simp only [Value.slice.injEq] at hv
    exact ⟨g, off, hv.1, h4 j vals[j] (by simp [hj]), h3⟩
end Go.Proofs.YthnggjaecngbiaaGreatDoor
