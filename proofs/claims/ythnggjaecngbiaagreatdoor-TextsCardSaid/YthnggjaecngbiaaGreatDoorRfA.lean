import Derived.Test.YthnggjaecngbiaaGreatDoorRows
import Derived.Test.YthnggjaecngbiaaGreatDoorRdD
namespace Go.Proofs.YthnggjaecngbiaaGreatDoor
open Go.RowKit
/-! The document's own reader (package curtainref). -/
def RR (b : Nat) (s : ByteArray) (k : Nat) (bad far : Bool) (w : World) : Prop := w.heap[b]? = some (.cells #[.string s, .int .i64 (k : Int), .bool bad, .bool far] 173)
section
variable {b : Nat} {s : ByteArray} {k : Nat} {bad far : Bool} {w w' w'' : World}
theorem RR.lt (h : RR b s k bad far w) : b < w.heap.size := (Array.getElem?_eq_some_iff.1 h).1
theorem RR.text (h : RR b s k bad far w) : w.cell? ⟨b, 0, none⟩ = some (.string s) := by
 unfold RR at h; simp [World.cell?, h]
theorem RR.at (h : RR b s k bad far w) : w.cell? ⟨b, 1, none⟩ = some (.int .i64 (k : Int)) := by
 unfold RR at h; simp [World.cell?, h]
theorem RR.badC (h : RR b s k bad far w) : w.cell? ⟨b, 2, none⟩ = some (.bool bad) := by
 unfold RR at h; simp [World.cell?, h]
theorem RR.farC (h : RR b s k bad far w) : w.cell? ⟨b, 3, none⟩ = some (.bool far) := by
 unfold RR at h; simp [World.cell?, h]
theorem RR.free (h : RR b s k bad far w) (i : Nat) : w.frozen? ⟨b, i, none⟩ = false := by
 unfold RR at h; simp [World.frozen?, h]
theorem RR.drewN (h : RR b s k bad far w) (n : Nat) : RR b s k bad far (w.drewN n) := h
theorem RR.setAt (h : RR b s k bad far w) (m : Nat) : RR b s m bad far (w.setCell ⟨b, 1, none⟩ (.int .i64 (m : Int))) := by
 unfold RR at h ⊢; simp [World.setCell, Array.getElem?_modify, h]
theorem RR.setBad (h : RR b s k bad far w) (x : Bool) : RR b s k x far (w.setCell ⟨b, 2, none⟩ (.bool x)) := by
 unfold RR at h ⊢; simp [World.setCell, Array.getElem?_modify, h]
theorem RR.setFar (h : RR b s k bad far w) (x : Bool) : RR b s k bad x (w.setCell ⟨b, 3, none⟩ (.bool x)) := by
 unfold RR at h ⊢; simp [World.setCell, Array.getElem?_modify, h]
theorem RR.keep (h : RR b s k bad far w) (e : w'.heap[b]? = w.heap[b]?) : RR b s k bad far w' := by
 unfold RR at h ⊢; rw [e]; exact h
end
structure Mv (b : Nat) (w w' : World) : Prop where
 os : w'.os = w.os
 tape : w'.tape = w.tape
 output : w'.output = w.output
 size : w.heap.size ≤ w'.heap.size
 block : ∀ j, j < w.heap.size → j ≠ b → w'.heap[j]? = w.heap[j]?
section
variable {b : Nat} {w w' w'' : World}
theorem Mv.refl (b : Nat) (w : World) : Mv b w w := ⟨rfl, rfl, rfl, Nat.le_refl _, fun _ _ _ => rfl⟩
theorem Mv.drewN (h : Mv b w w') (n : Nat) : Mv b w (w'.drewN n) := ⟨h.os, h.tape, h.output, h.size, h.block⟩
theorem Mv.drew (h : Mv b w w') : Mv b w w'.drew := ⟨h.os, h.tape, h.output, h.size, h.block⟩
theorem Mv.of_drew (h : Mv b w.drew w') : Mv b w w' := ⟨h.os, h.tape, h.output, h.size, h.block⟩
theorem Mv.trans (h : Mv b w w') (g : Mv b w' w'') : Mv b w w'' :=
 ⟨g.os.trans h.os, g.tape.trans h.tape, g.output.trans h.output, Nat.le_trans h.size g.size, fun j hj hb => (g.block j (Nat.lt_of_lt_of_le hj h.size) hb).trans (h.block j hj hb)⟩
theorem Mv.set (h : Mv b w w') (i : Nat) (v : Value) : Mv b w (w'.setCell ⟨b, i, none⟩ v) :=
 ⟨h.os, h.tape, h.output, by simp only [World.setCell, Array.size_modify]; exact h.size, fun j hj hb => by rw [Below.heap_setCell _ _ _ _ hb]; exact h.block j hj hb⟩
theorem Mv.setNew (h : Mv b w w') {a : Addr} (ha : w.heap.size ≤ a.block) (v : Value) : Mv b w (w'.setCell a v) :=
 ⟨h.os, h.tape, h.output, by simp only [World.setCell, Array.size_modify]; exact h.size, fun j hj hjb => by rw [Below.heap_setCell _ _ _ _ (by omega)]; exact h.block j hj hjb⟩
theorem Mv.below (h : Mv b w w') (g : Below w'.heap.size w' w'') : Mv b w w'' :=
 ⟨g.os.trans h.os, g.tape.trans h.tape, g.output.trans h.output, Nat.le_trans h.size g.size, fun j hj hb => (g.block j (Nat.lt_of_lt_of_le hj h.size)).trans (h.block j hj hb)⟩
theorem Mv.alloc (h : Mv b w w') (o : Obj) : Mv b w (w'.alloc o) := h.below ((Below.refl _ _).alloc (Nat.le_refl _) _)
theorem Mv.of_alloc {o : Obj} (h : Mv b (w.alloc o) w') : Mv b w w' :=
 ⟨h.os, h.tape, h.output, by have := h.size; simp at this; omega, fun j hj hb => by rw [h.block j (by simp; omega) hb, Below.heap_alloc _ _ _ hj]⟩
theorem Mv.kept {o : Obj} (h : Mv b (w.alloc o) w') (hb : b < w.heap.size) : w'.heap[w.heap.size]? = some o := by
 rw [h.block _ (by simp) (by omega)]; exact alloc_last w o
theorem Mv.grown {row : Option Nat} (h : Mv b w w') (g : w'.grownBy w'' row) (hr : ∀ j, row = some j → w.heap.size ≤ j) : Mv b w w'' :=
 ⟨g.os.trans h.os, g.tape.trans h.tape, g.output.trans h.output, Nat.le_trans h.size g.size, fun j hj hjb => (g.block j (Nat.lt_of_lt_of_le hj h.size) (fun e => by have := hr j e.symm; omega)).trans (h.block j hj hjb)⟩
theorem Mv.below_of {o : Obj} (h : Mv w.heap.size (w.alloc o) w') : Below w.heap.size w w' :=
 ⟨h.os, h.tape, h.output, by have := h.size; simp at this; omega, fun j hj => by rw [h.block j (by simp; omega) (by omega), Below.heap_alloc _ _ _ hj]⟩
end
def hv (s : ByteArray) (k : Nat) (bad : Bool) : Int := if bad then 0 else if k < s.size then byteAt s k else 0
theorem hv_bad (s : ByteArray) (k : Nat) : hv s k true = 0 := rfl
theorem hv_in {s : ByteArray} {k : Nat} (h : k < s.size) : hv s k false = (s[k].toNat : Int) := by simp [hv, h, byteAt]
theorem hv_out {s : ByteArray} {k : Nat} (h : s.size ≤ k) : hv s k false = 0 := by
 have : ¬ k < s.size := by omega
 simp [hv, this]
theorem hv_eq {s : ByteArray} {k : Nat} {c : Int} (hc : 0 < c) : (hv s k false == c) = inR s k c c := by
 rw [inR_one]
 by_cases h : k < s.size
 ·rw [hv_in h, byteAt_in h]; rw [Bool.eq_iff_iff]; simp
 ·rw [hv_out (by omega), byteAt_out (by omega), Bool.eq_iff_iff]; simp; omega
theorem hv_ne {s : ByteArray} {k : Nat} {c : Int} (hc : 0 < c) (h : inR s k c c = false) : (hv s k false == c) = false := by rw [hv_eq hc]; exact h
theorem hv_yes {s : ByteArray} {k : Nat} {c : Int} (h : inR s k c c = true) (hc : 0 < c) : hv s k false = c := by
 have := hv_eq (s := s) (k := k) hc
 rw [h] at this
 simpa using this
theorem hv_low (s : ByteArray) (k : Nat) : isLow (hv s k false) = isLow (byteAt s k) := by
 by_cases h : k < s.size
 ·rw [hv_in h, byteAt_in h]
 ·rw [hv_out (by omega), byteAt_out (by omega)]; rfl
theorem hv_dig (s : ByteArray) (k : Nat) : isDig (hv s k false) = isDig (byteAt s k) := by
 by_cases h : k < s.size
 ·rw [hv_in h, byteAt_in h]
 ·rw [hv_out (by omega), byteAt_out (by omega)]; rfl
theorem hv_blank (s : ByteArray) (k : Nat) : isBlank (hv s k false) = isBlank (byteAt s k) := by
 by_cases h : k < s.size
 ·rw [hv_in h, byteAt_in h]
 ·rw [hv_out (by omega), byteAt_out (by omega)]; rfl
theorem hv_bd (s : ByteArray) (k : Nat) (bad : Bool) : 0 ≤ hv s k bad ∧ hv s k bad ≤ 255 := by
 unfold hv byteAt
 split
 ·omega
 ·split
  ·have := (s[k]).toNat_lt; omega
  ·omega
set_option maxHeartbeats 400000 in
theorem rhere_any (b : Nat) (s : ByteArray) (k : Nat) (bad far : Bool) (w : World) (hr : RR b s k bad far w) :
  Calls Tryz.prog 137 #[.pointer (some ⟨b, 0, none⟩)] w fun e w' => e = .returned (.int .u8 (hv s k bad)) ∧ ∃ n, w' = w.drewN n := by
 have h0 := hr.text
 have h1 := hr.at
 have h2 := hr.badC
 clear hr
 cases bad with
 | true =>
  go_enter Tryz.func137, Tryz.ntmps137
  go_wp2
  go_quiet (fail)
  go_wp2
  go_ret
  exact ⟨rfl, _, rfl⟩
 | false =>
  by_cases hk : k < s.size
  ·have hd : decide ((s.size : Int) ≤ (k : Int)) = false := by simp; omega
   rw [hv_in hk]
   go_enter Tryz.func137, Tryz.ntmps137
   go_wp2
   go_quiet (fail)
   go_wp2
   go_quiet (fail)
   go_wp2
   go_ret
   exact ⟨rfl, _, World.drewN_drewN _ _ _⟩
  ·have hd : decide ((s.size : Int) ≤ (k : Int)) = true := by simp; omega
   rw [hv_out (by omega)]
   go_enter Tryz.func137, Tryz.ntmps137
   go_wp2
   go_quiet (fail)
   go_wp2
   go_ret
   exact ⟨rfl, _, rfl⟩
end Go.Proofs.YthnggjaecngbiaaGreatDoor
