import Derived.Test.YthnggjaecngbiaaGreatDoorCuB
import Derived.Test.YthnggjaecngbiaaGreatDoorDgA
namespace Go.Proofs.YthnggjaecngbiaaGreatDoor
open Go.RowKit

/-- A line without its end. -/
def line0 (it : PItem) (lab : Nat) (clear : Nat) (r : PVal × List Nat) : List UInt8 := it.name.data.toList ++ [32] ++ (if seenB lab clear then knownOut it r else [63])
def lines0 (its : List PItem) (ls : List Nat) (rs : List (PVal × List Nat)) (clear : Nat) (j : Nat) : List (List UInt8) := (List.range j).map fun i => line0 (its.getD i noItem) (ls.getD i 0) clear (rs.getD i (PVal.zero, []))
theorem toldTo_lines (its : List PItem) (ls : List Nat) (rs : List (PVal × List Nat)) (clear : Nat) : ∀ j, toldTo its ls rs clear j = (lines0 its ls rs clear j).flatMap (· ++ [10])
  | 0 => rfl
  | j + 1 => by
    rw [toldTo, toldTo_lines its ls rs clear j]
    unfold lines0
    rw [List.range_succ, List.map_append, List.flatMap_append]
    congr 1
    simp [line0, lineOut]
theorem plainb_rulesTold : ∀ (b : Bool) (l : List Nat), Plainb (rulesTold b l)
  | true, [] => by intro c hc; simp [rulesTold] at hc
  | false, [] => by intro c hc; simp [rulesTold] at hc
  | true, i :: l => ((plainb_lit rfl).app (plainb_itoa _)).app (plainb_rulesTold true l)
  | false, i :: l => (plainb_itoa _).app (plainb_rulesTold true l)
theorem plainb_shown (p : PVal) : Plainb (shownOut p) := by
  unfold shownOut
  repeat' split
  · exact plainb_lit rfl
  · exact plainb_lit rfl
  · exact plainb_itoa _
theorem plainb_known (it : PItem) (r : PVal × List Nat) : Plainb (knownOut it r) := by
  unfold knownOut
  refine (plainb_shown _).app ?_
  split
  · exact (((plainb_lit rfl).app (plainb_lit rfl)).app (plainb_rulesTold _ _)).app (plainb_lit rfl)
  · exact plainb_lit rfl
theorem OkPlan.nameOK {its : List PItem} (h : OkPlan its) : ∀ it ∈ its, NameOK it.name := fun it hi => by
  rcases h.can it hi with hc | hc
  · exact hc.name
  · exact hc.name
theorem told_linesP {its : List PItem} (ok : OkPlan its) (vals : List Int) (clear : Nat) : linesP ⟨(explainP its clear vals).toArray⟩ = (lines0 its (labsP its) (resP its vals) clear its.length).map (fun l => ⟨l.toArray⟩) := by
  refine linesP_of _ ?_ fun l hl c hc => ?_
  · unfold explainP
    rw [← toldTo_lines]
  · unfold lines0 at hl
    rw [List.mem_map] at hl
    obtain ⟨i, hi, rfl⟩ := hl
    have hil : i < its.length := by simpa using hi
    have hn := ok.nameOK _ (List.getElem_mem hil)
    rw [getD_at its noItem hil] at hc
    have hp : Plainb (line0 its[i] ((labsP its).getD i 0) clear ((resP its vals).getD i (PVal.zero, []))) := by
      unfold line0
      refine ((plainb_low hn.2).app (plainb_lit rfl)).app ?_
      split
      · exact plainb_known _ _
      · exact plainb_lit rfl
    exact (hp c hc).1
/-- A line that may be known begins as its value says. -/
theorem begins_line {it : PItem} {lab clear : Nat} {r : PVal × List Nat} (h : seenB lab clear = true) : beginsP ⟨(line0 it lab clear r).toArray⟩ ⟨(it.name.data.toList ++ [32] ++ shownOut r.1).toArray⟩ = true := by
  obtain ⟨rest, hr, hh⟩ : ∃ rest, line0 it lab clear r = (it.name.data.toList ++ [32] ++ shownOut r.1) ++ rest ∧ (rest = [] ∨ ∃ q, rest = 32 :: q) := by
    unfold line0 knownOut
    rw [h, if_pos rfl]
    by_cases hd : (it.isT && decide (it.drops = 0)) = true
    · rw [hd, if_pos rfl]
      exact ⟨[32] ++ [91] ++ rulesTold false r.2 ++ [93], by simp, Or.inr ⟨_, rfl⟩⟩
    · rw [if_neg hd]
      exact ⟨[], by simp, Or.inl rfl⟩
  generalize it.name.data.toList ++ [32] ++ shownOut r.1 = t at *
  rw [hr]
  have hts : (⟨t.toArray⟩ : ByteArray).size = t.length := by show t.toArray.size = _; rw [List.size_toArray]
  have hss : (⟨(t ++ rest).toArray⟩ : ByteArray).size = t.length + rest.length := by show (t ++ rest).toArray.size = _; rw [List.size_toArray, List.length_append]
  have htl : Tl ⟨(t ++ rest).toArray⟩ 0 (t ++ rest) := ⟨by omega, by simp⟩
  have he := htl.ext
  unfold beginsP
  rw [hts, hss]
  rw [Nat.zero_add] at he
  rw [he]
  rcases hh with rfl | ⟨q, rfl⟩
  · simp
  · have hb := htl.app.byte
    rw [Nat.zero_add] at hb
    rw [hb]
    simp [headB]
end Go.Proofs.YthnggjaecngbiaaGreatDoor
