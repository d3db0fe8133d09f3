import Derived.Test.YtdgbmcbkbkbdoaaGreatDoorEvF
namespace Go.Proofs.YtdgbmcbkbkbdoaaGreatDoor
open Go.RowKit

theorem Tryz.info_value : (Tryz.prog.info? 51).map (fun i => (i.zero, i.size, i.bytes)) = some (some (.agg #[.int .i64 0, .int .i64 0]), 2, 16) := by kernel_rfl
theorem Tryz.info_result : (Tryz.prog.info? 123).map (fun i => (i.zero, i.size, i.bytes)) = some (some (.agg #[.int .i64 0, .int .i64 0, .slice none 0 0]), 3, 40) := by kernel_rfl

/-- Things of m cells that are made one by one, zeros behind. -/
def flatZ {α : Type} (f : α → List Value) (z : α) (l : List α) (n : Nat) : List Value := (l ++ List.replicate (n - l.length) z).flatMap f
theorem flat_len {α : Type} (f : α → List Value) (m : Nat) (hm : ∀ x, (f x).length = m) : ∀ l : List α, (l.flatMap f).length = l.length * m
  | [] => by simp
  | x :: l => by rw [List.flatMap_cons, List.length_append, hm, flat_len f m hm l, List.length_cons, Nat.succ_mul, Nat.add_comm]
theorem flatZ_split {α : Type} (f : α → List Value) (z : α) {l : List α} {n : Nat} (h : l.length < n) : ∃ r, flatZ f z l n = l.flatMap f ++ (f z ++ r) ∧ ∀ x, flatZ f z (l ++ [x]) n = l.flatMap f ++ (f x ++ r) := by
  refine ⟨(List.replicate (n - (l.length + 1)) z).flatMap f, ?_, fun x => ?_⟩
  · unfold flatZ
    rw [show n - l.length = (n - (l.length + 1)) + 1 by omega, List.replicate_succ]
    simp
  · unfold flatZ
    simp
theorem flatZ_full {α : Type} (f : α → List Value) (z : α) (l : List α) : flatZ f z l l.length = l.flatMap f := by simp [flatZ]
theorem flatZ_set2 {α : Type} (f : α → List Value) (z : α) {l : List α} {n : Nat} (h : l.length < n) (x : α) {z0 z1 a b : Value} (hm : ∀ x, (f x).length = 2) (hz : f z = [z0, z1]) (hx : f x = [a, b]) :
    ((flatZ f z l n).toArray.setIfInBounds (l.length * 2) a).setIfInBounds (l.length * 2 + 1) b = (flatZ f z (l ++ [x]) n).toArray := by
  obtain ⟨r, h1, h2⟩ := flatZ_split f z h
  have hl := flat_len f 2 hm l
  rw [h1, h2 x, hz, hx]
  apply Array.toList_inj.1
  simp only [Array.toList_setIfInBounds, List.cons_append, List.nil_append]
  rw [List.set_append_right _ _ (by omega), List.set_append_right _ _ (by omega), hl]
  simp
theorem flatZ_set3 {α : Type} (f : α → List Value) (z : α) {l : List α} {n : Nat} (h : l.length < n) (x : α) {z0 z1 z2 a b c : Value} (hm : ∀ x, (f x).length = 3) (hz : f z = [z0, z1, z2]) (hx : f x = [a, b, c]) :
    (((flatZ f z l n).toArray.setIfInBounds (l.length * 3) a).setIfInBounds (l.length * 3 + 1) b).setIfInBounds (l.length * 3 + 2) c = (flatZ f z (l ++ [x]) n).toArray := by
  obtain ⟨r, h1, h2⟩ := flatZ_split f z h
  have hl := flat_len f 3 hm l
  rw [h1, h2 x, hz, hx]
  apply Array.toList_inj.1
  simp only [Array.toList_setIfInBounds, List.cons_append, List.nil_append]
  rw [List.set_append_right _ _ (by omega), List.set_append_right _ _ (by omega), List.set_append_right _ _ (by omega), hl]
  simp
theorem flatZ_zero {α : Type} (f : α → List Value) (z : α) {l : List α} {n m : Nat} (h : l.length < n) (hm : ∀ x, (f x).length = m) (i : Nat) (hi : i < m) : (flatZ f z l n)[l.length * m + i]? = (f z)[i]? := by
  obtain ⟨r, h1, _⟩ := flatZ_split f z h
  have hl := flat_len f m hm l
  rw [h1, List.getElem?_append_right (by omega), hl, Nat.add_sub_cancel_left, List.getElem?_append_left (by rw [hm]; exact hi)]
theorem made_flat {α : Type} (f : α → List Value) (z : α) (m : Nat) (_hm : 0 < m) (hz : (f z).length = m) (n : Nat) : madeCells (f z).toArray (n * m) = (flatZ f z [] n).toArray := by
  have key : ∀ n, (List.replicate n z).flatMap f = (List.range (n * m)).map (fun i => (f z)[i % m]!) := by
    intro n
    induction n with
    | zero => simp
    | succ n ih =>
      rw [List.replicate_succ', List.flatMap_append, ih, Nat.succ_mul, List.range_add, List.map_append]
      congr 1
      simp only [List.flatMap_cons, List.flatMap_nil, List.append_nil, List.map_map]
      apply List.ext_getElem
      · simp [hz]
      · intro i h1 h2
        have : i < m := by rw [hz] at h1; exact h1
        simp [Nat.mod_eq_of_lt this, Nat.add_mod, h1]
  unfold madeCells flatZ
  apply Array.toList_inj.1
  simp [key n, hz]

/-- A result: its value, the slice of the rules that are met. -/
def rc3 (x : PVal × Value) : List Value := [.int .i64 x.1.kind, .int .i64 x.1.n, x.2]
def rZero : PVal × Value := (PVal.zero, .slice none 0 0)
theorem make_values (n : Nat) (h : n ≤ 1000) (w : World) : (Instr.makeSlice 47 (.int .i64 (n : Int)) (.int .i64 (n : Int))).run Tryz.prog w = .ok (.slice (some ⟨w.heap.size, 0, none⟩) n n) (w.alloc (.cells (flatZ vcells PVal.zero [] n).toArray 51)) := by
  obtain ⟨i, hi, hz, hs, hb⟩ := info_parts Tryz.info_value
  have hr := run_make (P := Tryz.prog) w 47 51 i _ Tryz.underlying47 hi hz .i64 .i64 n n (by omega) (Int.le_refl _) (by rw [hb]; omega) (by omega)
  have hm := made_flat vcells PVal.zero 2 (by omega) rfl n
  simp only [Int.toNat_natCast, hs] at hr
  rw [hr, ← hm]
  rfl
theorem make_results (n : Nat) (h : n ≤ 1000) (w : World) : (Instr.makeSlice 120 (.int .i64 (n : Int)) (.int .i64 (n : Int))).run Tryz.prog w = .ok (.slice (some ⟨w.heap.size, 0, none⟩) n n) (w.alloc (.cells (flatZ rc3 rZero [] n).toArray 123)) := by
  obtain ⟨i, hi, hz, hs, hb⟩ := info_parts Tryz.info_result
  have hr := run_make (P := Tryz.prog) w 120 123 i _ Tryz.underlying120 hi hz .i64 .i64 n n (by omega) (Int.le_refl _) (by rw [hb]; omega) (by omega)
  have hm := made_flat rc3 rZero 3 (by omega) rfl n
  simp only [Int.toNat_natCast, hs] at hr
  rw [hr, ← hm]
  rfl
end Go.Proofs.YtdgbmcbkbkbdoaaGreatDoor
