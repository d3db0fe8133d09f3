import Derived.Test.YthnggjaecngbiaaDoorRdD
namespace Go.Proofs.YthnggjaecngbiaaDoor
open Go.RowKit

theorem Rd.alloc {T : TypeId} {b : Nat} {s : ByteArray} {k : Nat} {w : World} (h : Rd T b s k w) (o : Obj) : Rd T b s k (w.alloc o) := by
  have hl := h.lt
  unfold Rd at h ⊢
  rw [Below.heap_alloc _ _ _ hl]; exact h
theorem Moved.alloc {T : TypeId} {b : Nat} {s : ByteArray} {k : Nat} {w w' : World} (h : Moved T b s k w w') (o : Obj) : Moved T b s k w (w'.alloc o) :=
  h.below ((Below.refl _ _).alloc (Nat.le_refl _) _)
/-- What a call did behind a new block, seen from before it. -/
theorem Moved.of_alloc {T : TypeId} {b : Nat} {s : ByteArray} {k : Nat} {w w' : World} {o : Obj} (h : Moved T b s k (w.alloc o) w') : Moved T b s k w w' :=
  ⟨h.os, h.tape, h.output, by have := h.size; simp at this; omega, fun j hj hb => by rw [h.block j (by simp; omega) hb, Below.heap_alloc _ _ _ hj], h.rd⟩
theorem Moved.setNew {T : TypeId} {b : Nat} {s : ByteArray} {k : Nat} {w w' : World} (h : Moved T b s k w w') {a : Addr} (ha : w.heap.size ≤ a.block) (hb : a.block ≠ b) (v : Value) : Moved T b s k w (w'.setCell a v) :=
  ⟨h.os, h.tape, h.output, by simp only [World.setCell, Array.size_modify]; exact h.size, fun j hj hjb => by rw [Below.heap_setCell _ _ _ _ (by omega)]; exact h.block j hj hjb, by
    have h1 := h.rd
    unfold Rd at h1 ⊢
    rw [Below.heap_setCell _ _ _ _ (fun e => hb e.symm)]; exact h1⟩
theorem alloc_last (w : World) (o : Obj) : (w.alloc o).heap[w.heap.size]? = some o := by
  show (w.heap.push o)[w.heap.size]? = _
  simp
/-- A new block behind a call. -/
theorem Moved.kept {T : TypeId} {b : Nat} {s : ByteArray} {k : Nat} {w w' : World} {o : Obj} (h : Moved T b s k (w.alloc o) w') (hb : b < w.heap.size) : w'.heap[w.heap.size]? = some o := by
  rw [h.block _ (by simp) (by omega), alloc_last]

theorem Moved.put4 {T : TypeId} {b : Nat} {s : ByteArray} {k : Nat} {w w' : World} (h : Moved T b s k w w') {N : Nat} (hN : w.heap.size ≤ N) (hb : b < w.heap.size) (v0 v1 v2 v3 : Value) :
    Moved T b s k w ((((w'.setCell ⟨N, 0, none⟩ v0).setCell ⟨N, 1, none⟩ v1).setCell ⟨N, 2, none⟩ v2).setCell ⟨N, 3, none⟩ v3) :=
  (((h.setNew (a := ⟨N, 0, none⟩) hN (by simp; omega) v0).setNew (a := ⟨N, 1, none⟩) hN (by simp; omega) v1).setNew (a := ⟨N, 2, none⟩) hN (by simp; omega) v2).setNew (a := ⟨N, 3, none⟩) hN (by simp; omega) v3

structure PTest where
  nots : Nat
  kind : Int
  low : Int
  high : Int

def tv (t : PTest) : Value := .agg #[.int .i64 (t.nots : Int), .int .i64 t.kind, .int .i64 t.low, .int .i64 t.high]

def wordTestR (s : ByteArray) (k : Nat) : Res PTest :=
  if (s.extract (nextP s k) (lowEnd s (nextP s k))).toList == [110, 111, 110, 101] then .inr (⟨0, 1, 0, 0⟩, lowEnd s (nextP s k))
  else if (s.extract (nextP s k) (lowEnd s (nextP s k))).toList == [99, 108, 97, 115, 104] then .inr (⟨0, 2, 0, 0⟩, lowEnd s (nextP s k))
  else .inl (nextP s k)

theorem cells4 {w : World} {N : Nat} {a b c d : Value} {T : TypeId} (h : w.heap[N]? = some (.cells #[a, b, c, d] T)) :
    w.cell? ⟨N, 0, none⟩ = some a ∧ w.cell? ⟨N, 1, none⟩ = some b ∧ w.cell? ⟨N, 2, none⟩ = some c ∧ w.cell? ⟨N, 3, none⟩ = some d ∧
    w.frozen? ⟨N, 0, none⟩ = false ∧ w.frozen? ⟨N, 1, none⟩ = false ∧ w.frozen? ⟨N, 2, none⟩ = false ∧ w.frozen? ⟨N, 3, none⟩ = false := by
  simp [World.cell?, World.frozen?, h]
theorem cells_of {w : World} {N : Nat} {c : Array Value} {T : TypeId} (h : w.heap[N]? = some (.cells c T)) (i : Nat) : w.cell? ⟨N, i, none⟩ = c[i]? ∧ w.frozen? ⟨N, i, none⟩ = false := by
  simp [World.cell?, World.frozen?, h]

set_option maxHeartbeats 400000 in
theorem wordTest_any (b : Nat) (s : ByteArray) (k : Nat) (w : World) (hr : Rd 54 b s k w) (hs : s.size ≤ 1000) (hk : k ≤ s.size) :
    Calls Tryd.prog 80 #[.pointer (some ⟨b, 0, none⟩)] w fun e w' => (∃ p, wordTestR s k = .inl p ∧ e = .panicked [{ v := .iface 36 (.agg #[.int .i64 (p : Int)]), recovered := false }] ∧ ∃ m, Moved 54 b s m w w') ∨ (∃ t q, wordTestR s k = .inr (t, q) ∧ e = .returned (tv t) ∧ Moved 54 b s q w w') := by
  have hp := nextP_le hk
  have hlt := hr.lt
  have H := hide hr
  clear hr
  have hpp : nextP s (nextP s k) = nextP s k := nextP_idem hk
  have HP := hide hpp
  clear hpp
  cases h1 : ((s.extract (nextP s k) (lowEnd s (nextP s k))).toList == [110, 111, 110, 101]) with
  | true =>
    have HF : Hid (wordTestR s k = .inr (⟨0, 1, 0, 0⟩, lowEnd s (nextP s k))) := hide (by unfold wordTestR; rw [if_pos h1])
    have H1 := hide h1
    clear h1
    go_enter Tryd.func80, Tryd.ntmps80
    go_wp2_with (first | (go_at_call 27; refine (next_any _ _ k _ (by exact (unhide H).alloc _) hs hk).mono ?_; rintro e w1 ⟨rfl, hm1⟩; have HM := hide hm1; clear hm1))
    refine (word_any _ _ _ _ (unhide HM).rd hs hp).mono ?_
    rintro e w2 ⟨rfl, hm2⟩
    rw [unhide HP] at hm2 ⊢
    have HN := hide ((unhide HM).trans hm2)
    obtain ⟨c0, c1, c2, c3, f0, f1, f2, f3⟩ := cells4 ((unhide HN).kept hlt)
    clear hm2 HM
    have h1 := unhide H1
    generalize hx : s.extract (nextP s k) (lowEnd s (nextP s k)) = x at *
    clear hx
    go_wp2
    exact bodyPost_ret (v := tv ⟨0, 1, 0, 0⟩) (by simp [results, Tryd.results80, go_sem, tv, c0, c1, c2, c3]) rfl (Or.inr ⟨⟨0, 1, 0, 0⟩, lowEnd s (nextP s k), HF.out, rfl, (unhide HN).of_alloc.put4 (Nat.le_refl _) hlt _ _ _ _⟩)
  | false =>
    cases h2 : ((s.extract (nextP s k) (lowEnd s (nextP s k))).toList == [99, 108, 97, 115, 104]) with
    | true =>
      have HF : Hid (wordTestR s k = .inr (⟨0, 2, 0, 0⟩, lowEnd s (nextP s k))) := hide (by unfold wordTestR; rw [if_neg (by rw [h1]; simp), if_pos h2])
      have H1 := hide h1
      have H2 := hide h2
      clear h1 h2
      go_enter Tryd.func80, Tryd.ntmps80
      go_wp2_with (first | (go_at_call 27; refine (next_any _ _ k _ (by exact (unhide H).alloc _) hs hk).mono ?_; rintro e w1 ⟨rfl, hm1⟩; have HM := hide hm1; clear hm1))
      refine (word_any _ _ _ _ (unhide HM).rd hs hp).mono ?_
      rintro e w2 ⟨rfl, hm2⟩
      rw [unhide HP] at hm2 ⊢
      have HN := hide ((unhide HM).trans hm2)
      obtain ⟨c0, c1, c2, c3, f0, f1, f2, f3⟩ := cells4 ((unhide HN).kept hlt)
      clear hm2 HM
      have h1 := unhide H1
      have h2 := unhide H2
      generalize hx : s.extract (nextP s k) (lowEnd s (nextP s k)) = x at *
      clear hx
      go_wp2
      exact bodyPost_ret (v := tv ⟨0, 2, 0, 0⟩) (by simp [results, Tryd.results80, go_sem, tv, c0, c1, c2, c3]) rfl (Or.inr ⟨⟨0, 2, 0, 0⟩, lowEnd s (nextP s k), HF.out, rfl, (unhide HN).of_alloc.put4 (Nat.le_refl _) hlt _ _ _ _⟩)
    | false =>
      have HF : Hid (wordTestR s k = .inl (nextP s k)) := hide (by unfold wordTestR; rw [if_neg (by rw [h1]; simp), if_neg (by rw [h2]; simp)])
      have H1 := hide h1
      have H2 := hide h2
      clear h1 h2
      go_enter Tryd.func80, Tryd.ntmps80
      go_wp2_with (first | (go_at_call 27; refine (next_any _ _ k _ (by exact (unhide H).alloc _) hs hk).mono ?_; rintro e w1 ⟨rfl, hm1⟩; have HM := hide hm1; clear hm1))
      refine (word_any _ _ _ _ (unhide HM).rd hs hp).mono ?_
      rintro e w2 ⟨rfl, hm2⟩
      rw [unhide HP] at hm2 ⊢
      have HN := hide ((unhide HM).trans hm2)
      obtain ⟨c0, c1, c2, c3, f0, f1, f2, f3⟩ := cells4 ((unhide HN).kept hlt)
      clear hm2 HM
      have h1 := unhide H1
      have h2 := unhide H2
      generalize hx : s.extract (nextP s k) (lowEnd s (nextP s k)) = x at *
      clear hx
      go_wp2
      exact ⟨rfl, Or.inl ⟨nextP s k, HF.out, rfl, _, (unhide HN).of_alloc⟩⟩

end Go.Proofs.YthnggjaecngbiaaDoor
