import Derived.Test.YthnggjaecngbiaaGreatDoorRdC
namespace Go.Proofs.YthnggjaecngbiaaGreatDoor
open Go.RowKit

/-- Where the letters end after i of them were looked at, and the sum so far. -/
def mkPos (s : ByteArray) (k : Nat) : Nat → Nat
  | 0 => k
  | 1 => mk1 s k
  | 2 => mk2 s k
  | _ => mk3 s k
def mkSum (s : ByteArray) (k : Nat) : Nat → Nat
  | 0 => 0
  | 1 => bit (inR s k 97 97) 1
  | 2 => bit (inR s k 97 97) 1 + bit (inR s (mk1 s k) 98 98) 2
  | _ => mkSet s k
theorem mkSum_le (s : ByteArray) (k i : Nat) : mkSum s k i ≤ 7 := by
  unfold mkSum mkSet bit
  split <;> (repeat' split) <;> omega
theorem mkPos_le {s : ByteArray} {k : Nat} (h : k ≤ s.size) (i : Nat) : mkPos s k i ≤ s.size := by
  unfold mkPos
  split
  · exact h
  · exact mk1_le h
  · exact mk2_le h
  · exact mk3_le h

set_option maxHeartbeats 400000 in
theorem marks_any (b : Nat) (s : ByteArray) (k : Nat) (w : World) (hr : Rd 152 b s k w) (hs : s.size ≤ 1000) (hk : k ≤ s.size) :
    Calls Tryz.prog 150 #[.pointer (some ⟨b, 0, none⟩)] w fun e w' => (∃ p, marksR s k = .inl p ∧ e = .panicked [{ v := .iface 110 (.agg #[.int .i64 (p : Int)]), recovered := false }] ∧ ∃ m, Moved 152 b s m w w') ∨ (∃ v q, marksR s k = .inr (v, q) ∧ e = .returned (.int .i64 (v : Int)) ∧ Moved 152 b s q w w') := by
  have H := hide hr
  clear hr
  go_enter Tryz.func150, Tryz.ntmps150
  go_wp2_with fail
  go_loopg [3, 5] 4 (fun g n i wr => ∃ j : Nat, j ≤ 3 ∧ g = 4 - j ∧ i = .int .i64 j ∧ n = .int .i64 (mkSum s k j : Nat) ∧ Moved 152 b s (mkPos s k j) w wr)
  case atStart => exact ⟨0, by omega, rfl, rfl, rfl, Moved.refl (unhide H)⟩
  case round =>
    obtain ⟨j, hj, hg, rfl, rfl, hmv⟩ := hrel
    clear H
    have h1 := hmv.rd.at
    have hsz := mkPos_le hk j
    have hle := mkSum_le s k j
    have A : Aside (gk = 4 - j ∧ Moved 152 b s (mkPos s k j) w wr) := ⟨hg, hmv⟩
    clear hg hmv
    rcases (by omega : j = 0 ∨ j = 1 ∨ j = 2 ∨ j = 3) with e | e | e | e
    all_goals subst e
    all_goals try clear hj
    case inr.inr.inr =>
      by_cases h0 : mkSum s k 3 = 0
      · have h0b : ((mkSum s k 3 : Nat) : Int) == 0 := by rw [h0]; rfl
        have H0 := hide h0
        clear h0
        go_wp2_with fail
        refine ⟨rfl, Or.inl ⟨mkPos s k 3, ?_, rfl, _, A.out.2⟩⟩
        have h9 : mkSet s k = 0 := unhide H0
        unfold marksR
        rw [if_pos h9]; rfl
      · have h0b : (((mkSum s k 3 : Nat) : Int) == 0) = false := by rw [beq_eq_false_iff_ne]; omega
        have H0 := hide h0
        clear h0
        go_wp2_with fail
        go_ret
        refine Or.inr ⟨mkSum s k 3, mkPos s k 3, ?_, rfl, A.out.2⟩
        have h9 : ¬ mkSet s k = 0 := unhide H0
        unfold marksR
        rw [if_neg h9]; rfl
    case inl =>
      cases hc : inR s (mkPos s k 0) 97 97 with
      | true =>
        have HC : Hid (inR s (mkPos s k 0) 97 97 = true ∧ mkSum s k 1 = mkSum s k 0 + 1 ∧ mkPos s k 1 = mkPos s k 0 + 1) := ⟨hc, by simp only [mkPos] at hc; simp [mkSum, bit, hc], by change adv (inR s (mkPos s k 0) 97 97) (mkPos s k 0) = _; rw [hc]; rfl⟩
        clear hc
        go_wp2_with (go_at_call 174; refine (takeHere_yes _ _ (mkPos s k 0) _ _ (by exact A.out.2.rd) hs (by simp) (by exact HC.out.1)).mono ?_; rintro e w1 ⟨rfl, hm1⟩; have HM := hide hm1; clear hm1)
        go_roundg (4 - 1)
        case measure => have := A.out.1; omega
        case rel =>
          refine ⟨1, by omega, rfl, rfl, ?_, ?_⟩
          · rw [HC.out.2.1]; first | rfl | go_num
          · rw [HC.out.2.2]; exact A.out.2.trans (unhide HM)
      | false =>
        have HC : Hid (inR s (mkPos s k 0) 97 97 = false ∧ mkSum s k 1 = mkSum s k 0 ∧ mkPos s k 1 = mkPos s k 0) := ⟨hc, by simp only [mkPos] at hc; simp [mkSum, bit, hc], by change adv (inR s (mkPos s k 0) 97 97) (mkPos s k 0) = _; rw [hc]; rfl⟩
        clear hc
        go_wp2_with (go_at_call 174; refine (takeHere_no _ _ (mkPos s k 0) _ _ (by exact A.out.2.rd) (by simp) (by exact HC.out.1)).mono ?_; rintro e w1 ⟨rfl, hm1⟩; have HM := hide hm1; clear hm1)
        go_roundg (4 - 1)
        case measure => have := A.out.1; omega
        case rel =>
          refine ⟨1, by omega, rfl, rfl, ?_, ?_⟩
          · rw [HC.out.2.1]
          · rw [HC.out.2.2]; exact A.out.2.trans (unhide HM)
    case inr.inl =>
      cases hc : inR s (mkPos s k 1) 98 98 with
      | true =>
        have HC : Hid (inR s (mkPos s k 1) 98 98 = true ∧ mkSum s k 2 = mkSum s k 1 + 2 ∧ mkPos s k 2 = mkPos s k 1 + 1) := ⟨hc, by simp only [mkPos] at hc; simp [mkSum, bit, hc], by change adv (inR s (mkPos s k 1) 98 98) (mkPos s k 1) = _; rw [hc]; rfl⟩
        clear hc
        go_wp2_with (go_at_call 174; refine (takeHere_yes _ _ (mkPos s k 1) _ _ (by exact A.out.2.rd) hs (by simp) (by exact HC.out.1)).mono ?_; rintro e w1 ⟨rfl, hm1⟩; have HM := hide hm1; clear hm1)
        go_roundg (4 - 2)
        case measure => have := A.out.1; omega
        case rel =>
          refine ⟨2, by omega, rfl, rfl, ?_, ?_⟩
          · rw [HC.out.2.1]; first | rfl | go_num
          · rw [HC.out.2.2]; exact A.out.2.trans (unhide HM)
      | false =>
        have HC : Hid (inR s (mkPos s k 1) 98 98 = false ∧ mkSum s k 2 = mkSum s k 1 ∧ mkPos s k 2 = mkPos s k 1) := ⟨hc, by simp only [mkPos] at hc; simp [mkSum, bit, hc], by change adv (inR s (mkPos s k 1) 98 98) (mkPos s k 1) = _; rw [hc]; rfl⟩
        clear hc
        go_wp2_with (go_at_call 174; refine (takeHere_no _ _ (mkPos s k 1) _ _ (by exact A.out.2.rd) (by simp) (by exact HC.out.1)).mono ?_; rintro e w1 ⟨rfl, hm1⟩; have HM := hide hm1; clear hm1)
        go_roundg (4 - 2)
        case measure => have := A.out.1; omega
        case rel =>
          refine ⟨2, by omega, rfl, rfl, ?_, ?_⟩
          · rw [HC.out.2.1]
          · rw [HC.out.2.2]; exact A.out.2.trans (unhide HM)
    case inr.inr.inl =>
      cases hc : inR s (mkPos s k 2) 99 99 with
      | true =>
        have HC : Hid (inR s (mkPos s k 2) 99 99 = true ∧ mkSum s k 3 = mkSum s k 2 + 4 ∧ mkPos s k 3 = mkPos s k 2 + 1) := ⟨hc, by simp only [mkPos] at hc; simp [mkSum, mkSet, bit, hc], by change adv (inR s (mkPos s k 2) 99 99) (mkPos s k 2) = _; rw [hc]; rfl⟩
        clear hc
        go_wp2_with (go_at_call 174; refine (takeHere_yes _ _ (mkPos s k 2) _ _ (by exact A.out.2.rd) hs (by simp) (by exact HC.out.1)).mono ?_; rintro e w1 ⟨rfl, hm1⟩; have HM := hide hm1; clear hm1)
        go_roundg (4 - 3)
        case measure => have := A.out.1; omega
        case rel =>
          refine ⟨3, by omega, rfl, rfl, ?_, ?_⟩
          · rw [HC.out.2.1]; first | rfl | go_num
          · rw [HC.out.2.2]; exact A.out.2.trans (unhide HM)
      | false =>
        have HC : Hid (inR s (mkPos s k 2) 99 99 = false ∧ mkSum s k 3 = mkSum s k 2 ∧ mkPos s k 3 = mkPos s k 2) := ⟨hc, by simp only [mkPos] at hc; simp [mkSum, mkSet, bit, hc], by change adv (inR s (mkPos s k 2) 99 99) (mkPos s k 2) = _; rw [hc]; rfl⟩
        clear hc
        go_wp2_with (go_at_call 174; refine (takeHere_no _ _ (mkPos s k 2) _ _ (by exact A.out.2.rd) (by simp) (by exact HC.out.1)).mono ?_; rintro e w1 ⟨rfl, hm1⟩; have HM := hide hm1; clear hm1)
        go_roundg (4 - 3)
        case measure => have := A.out.1; omega
        case rel =>
          refine ⟨3, by omega, rfl, rfl, ?_, ?_⟩
          · rw [HC.out.2.1]
          · rw [HC.out.2.2]; exact A.out.2.trans (unhide HM)

end Go.Proofs.YthnggjaecngbiaaGreatDoor

namespace Go.Proofs.YthnggjaecngbiaaGreatDoor
open Go.RowKit

theorem Rd.alloc {T : TypeId} {b : Nat} {s : ByteArray} {k : Nat} {w : World} (h : Rd T b s k w) (o : Obj) : Rd T b s k (w.alloc o) := by
  have hl := h.lt
  unfold Rd at h ⊢
  rw [Below.heap_alloc _ _ _ hl]; exact h
theorem Moved.alloc {T : TypeId} {b : Nat} {s : ByteArray} {k : Nat} {w w' : World} (h : Moved T b s k w w') (o : Obj) : Moved T b s k w (w'.alloc o) :=
  h.below ((Below.refl _ _).alloc (Nat.le_refl _) _)
/-- What a call did behind a new block, seen from before it. -/
theorem Moved.of_alloc {T : TypeId} {b : Nat} {s : ByteArray} {k : Nat} {w w' : World} {o : Obj} (h : Moved T b s k (w.alloc o) w') : Moved T b s k w w' :=
  ⟨h.os, h.tape, h.output, by have := h.size; simp at this; omega, fun j hj hb => by rw [h.block j (by simp; omega) hb, Below.heap_alloc _ _ _ hj], h.rd⟩
theorem Moved.setNew {T : TypeId} {b : Nat} {s : ByteArray} {k : Nat} {w w' : World} (h : Moved T b s k w w') {a : Addr} (ha : w.heap.size ≤ a.block) (hb : a.block ≠ b) (v : Value) : Moved T b s k w (w'.setCell a v) :=
  ⟨h.os, h.tape, h.output, by simp only [World.setCell, Array.size_modify]; exact h.size, fun j hj hjb => by rw [Below.heap_setCell _ _ _ _ (by omega)]; exact h.block j hj hjb, by
    have h1 := h.rd
    unfold Rd at h1 ⊢
    rw [Below.heap_setCell _ _ _ _ (fun e => hb e.symm)]; exact h1⟩
theorem alloc_last (w : World) (o : Obj) : (w.alloc o).heap[w.heap.size]? = some o := by
  show (w.heap.push o)[w.heap.size]? = _
  simp
/-- A new block behind a call. -/
theorem Moved.kept {T : TypeId} {b : Nat} {s : ByteArray} {k : Nat} {w w' : World} {o : Obj} (h : Moved T b s k (w.alloc o) w') (hb : b < w.heap.size) : w'.heap[w.heap.size]? = some o := by
  rw [h.block _ (by simp) (by omega), alloc_last]

theorem Moved.put4 {T : TypeId} {b : Nat} {s : ByteArray} {k : Nat} {w w' : World} (h : Moved T b s k w w') {N : Nat} (hN : w.heap.size ≤ N) (hb : b < w.heap.size) (v0 v1 v2 v3 : Value) :
    Moved T b s k w ((((w'.setCell ⟨N, 0, none⟩ v0).setCell ⟨N, 1, none⟩ v1).setCell ⟨N, 2, none⟩ v2).setCell ⟨N, 3, none⟩ v3) :=
  (((h.setNew (a := ⟨N, 0, none⟩) hN (by simp; omega) v0).setNew (a := ⟨N, 1, none⟩) hN (by simp; omega) v1).setNew (a := ⟨N, 2, none⟩) hN (by simp; omega) v2).setNew (a := ⟨N, 3, none⟩) hN (by simp; omega) v3

structure PTest where
  nots : Nat
  kind : Int
  low : Int
  high : Int

def tv (t : PTest) : Value := .agg #[.int .i64 (t.nots : Int), .int .i64 t.kind, .int .i64 t.low, .int .i64 t.high]

def wordTestR (s : ByteArray) (k : Nat) : Res PTest :=
  if (s.extract (nextP s k) (lowEnd s (nextP s k))).toList == [110, 111, 110, 101] then .inr (⟨0, 1, 0, 0⟩, lowEnd s (nextP s k))
  else if (s.extract (nextP s k) (lowEnd s (nextP s k))).toList == [99, 108, 97, 115, 104] then .inr (⟨0, 2, 0, 0⟩, lowEnd s (nextP s k))
  else .inl (nextP s k)

theorem cells4 {w : World} {N : Nat} {a b c d : Value} {T : TypeId} (h : w.heap[N]? = some (.cells #[a, b, c, d] T)) :
    w.cell? ⟨N, 0, none⟩ = some a ∧ w.cell? ⟨N, 1, none⟩ = some b ∧ w.cell? ⟨N, 2, none⟩ = some c ∧ w.cell? ⟨N, 3, none⟩ = some d ∧
    w.frozen? ⟨N, 0, none⟩ = false ∧ w.frozen? ⟨N, 1, none⟩ = false ∧ w.frozen? ⟨N, 2, none⟩ = false ∧ w.frozen? ⟨N, 3, none⟩ = false := by
  simp [World.cell?, World.frozen?, h]
theorem cells_of {w : World} {N : Nat} {c : Array Value} {T : TypeId} (h : w.heap[N]? = some (.cells c T)) (i : Nat) : w.cell? ⟨N, i, none⟩ = c[i]? ∧ w.frozen? ⟨N, i, none⟩ = false := by
  simp [World.cell?, World.frozen?, h]

set_option maxHeartbeats 400000 in
theorem wordTest_any (b : Nat) (s : ByteArray) (k : Nat) (w : World) (hr : Rd 152 b s k w) (hs : s.size ≤ 1000) (hk : k ≤ s.size) :
    Calls Tryz.prog 204 #[.pointer (some ⟨b, 0, none⟩)] w fun e w' => (∃ p, wordTestR s k = .inl p ∧ e = .panicked [{ v := .iface 110 (.agg #[.int .i64 (p : Int)]), recovered := false }] ∧ ∃ m, Moved 152 b s m w w') ∨ (∃ t q, wordTestR s k = .inr (t, q) ∧ e = .returned (tv t) ∧ Moved 152 b s q w w') := by
  have hp := nextP_le hk
  have hlt := hr.lt
  have H := hide hr
  clear hr
  have hpp : nextP s (nextP s k) = nextP s k := nextP_idem hk
  have HP := hide hpp
  clear hpp
  cases h1 : ((s.extract (nextP s k) (lowEnd s (nextP s k))).toList == [110, 111, 110, 101]) with
  | true =>
    have HF : Hid (wordTestR s k = .inr (⟨0, 1, 0, 0⟩, lowEnd s (nextP s k))) := hide (by unfold wordTestR; rw [if_pos h1])
    have H1 := hide h1
    clear h1
    go_enter Tryz.func204, Tryz.ntmps204
    go_wp2_with (first | (go_at_call 120; refine (next_any _ _ k _ (by exact (unhide H).alloc _) hs hk).mono ?_; rintro e w1 ⟨rfl, hm1⟩; have HM := hide hm1; clear hm1))
    refine (word_any _ _ _ _ (unhide HM).rd hs hp).mono ?_
    rintro e w2 ⟨rfl, hm2⟩
    rw [unhide HP] at hm2 ⊢
    have HN := hide ((unhide HM).trans hm2)
    obtain ⟨c0, c1, c2, c3, f0, f1, f2, f3⟩ := cells4 ((unhide HN).kept hlt)
    clear hm2 HM
    have h1 := unhide H1
    generalize hx : s.extract (nextP s k) (lowEnd s (nextP s k)) = x at *
    clear hx
    go_wp2
    exact bodyPost_ret (v := tv ⟨0, 1, 0, 0⟩) (by simp [results, Tryz.results204, go_sem, tv, c0, c1, c2, c3]) rfl (Or.inr ⟨⟨0, 1, 0, 0⟩, lowEnd s (nextP s k), HF.out, rfl, (unhide HN).of_alloc.put4 (Nat.le_refl _) hlt _ _ _ _⟩)
  | false =>
    cases h2 : ((s.extract (nextP s k) (lowEnd s (nextP s k))).toList == [99, 108, 97, 115, 104]) with
    | true =>
      have HF : Hid (wordTestR s k = .inr (⟨0, 2, 0, 0⟩, lowEnd s (nextP s k))) := hide (by unfold wordTestR; rw [if_neg (by rw [h1]; simp), if_pos h2])
      have H1 := hide h1
      have H2 := hide h2
      clear h1 h2
      go_enter Tryz.func204, Tryz.ntmps204
      go_wp2_with (first | (go_at_call 120; refine (next_any _ _ k _ (by exact (unhide H).alloc _) hs hk).mono ?_; rintro e w1 ⟨rfl, hm1⟩; have HM := hide hm1; clear hm1))
      refine (word_any _ _ _ _ (unhide HM).rd hs hp).mono ?_
      rintro e w2 ⟨rfl, hm2⟩
      rw [unhide HP] at hm2 ⊢
      have HN := hide ((unhide HM).trans hm2)
      obtain ⟨c0, c1, c2, c3, f0, f1, f2, f3⟩ := cells4 ((unhide HN).kept hlt)
      clear hm2 HM
      have h1 := unhide H1
      have h2 := unhide H2
      generalize hx : s.extract (nextP s k) (lowEnd s (nextP s k)) = x at *
      clear hx
      go_wp2
      exact bodyPost_ret (v := tv ⟨0, 2, 0, 0⟩) (by simp [results, Tryz.results204, go_sem, tv, c0, c1, c2, c3]) rfl (Or.inr ⟨⟨0, 2, 0, 0⟩, lowEnd s (nextP s k), HF.out, rfl, (unhide HN).of_alloc.put4 (Nat.le_refl _) hlt _ _ _ _⟩)
    | false =>
      have HF : Hid (wordTestR s k = .inl (nextP s k)) := hide (by unfold wordTestR; rw [if_neg (by rw [h1]; simp), if_neg (by rw [h2]; simp)])
      have H1 := hide h1
      have H2 := hide h2
      clear h1 h2
      go_enter Tryz.func204, Tryz.ntmps204
      go_wp2_with (first | (go_at_call 120; refine (next_any _ _ k _ (by exact (unhide H).alloc _) hs hk).mono ?_; rintro e w1 ⟨rfl, hm1⟩; have HM := hide hm1; clear hm1))
      refine (word_any _ _ _ _ (unhide HM).rd hs hp).mono ?_
      rintro e w2 ⟨rfl, hm2⟩
      rw [unhide HP] at hm2 ⊢
      have HN := hide ((unhide HM).trans hm2)
      obtain ⟨c0, c1, c2, c3, f0, f1, f2, f3⟩ := cells4 ((unhide HN).kept hlt)
      clear hm2 HM
      have h1 := unhide H1
      have h2 := unhide H2
      generalize hx : s.extract (nextP s k) (lowEnd s (nextP s k)) = x at *
      clear hx
      go_wp2
      exact ⟨rfl, Or.inl ⟨nextP s k, HF.out, rfl, _, (unhide HN).of_alloc⟩⟩

end Go.Proofs.YthnggjaecngbiaaGreatDoor

namespace Go.Proofs.YthnggjaecngbiaaGreatDoor
open Go.RowKit

def numberTestR (s : ByteArray) (k : Nat) : Res PTest :=
  match numberR s k with
  | .inl p => .inl p
  | .inr (lo, q) =>
    if inR s (nextP s q) 46 46 then
      if inR s (nextP s q + 1) 46 46 then
        match numberR s (nextP s q + 1 + 1) with
        | .inl p => .inl p
        | .inr (hi, r) => .inr (⟨0, 4, lo, hi⟩, r)
      else .inl (nextP s q + 1)
    else .inr (⟨0, 3, lo, 0⟩, nextP s q)

set_option maxHeartbeats 800000 in
theorem numberTest_any (b : Nat) (s : ByteArray) (k : Nat) (w : World) (hr : Rd 152 b s k w) (hs : s.size ≤ 1000) (hk : k ≤ s.size) :
    Calls Tryz.prog 205 #[.pointer (some ⟨b, 0, none⟩)] w fun e w' => (∃ p, numberTestR s k = .inl p ∧ e = .panicked [{ v := .iface 110 (.agg #[.int .i64 (p : Int)]), recovered := false }] ∧ ∃ m, Moved 152 b s m w w') ∨ (∃ t q, numberTestR s k = .inr (t, q) ∧ e = .returned (tv t) ∧ Moved 152 b s q w w') := by
  have hlt := hr.lt
  have H := hide hr
  clear hr
  go_enter Tryz.func205, Tryz.ntmps205
  go_wp2_with fail
  refine (number_any _ _ k _ ((unhide H).alloc _) hs hk).mono ?_
  rintro e w1 (⟨p, hd, rfl, m, hm1⟩ | ⟨lo, q, hd, rfl, hm1⟩)
  · have HF : Hid (numberTestR s k = .inl p) := hide (by unfold numberTestR; rw [hd])
    have HM := hide hm1
    clear hd hm1
    go_wp2
    exact ⟨rfl, Or.inl ⟨p, HF.out, rfl, m, (unhide HM).of_alloc⟩⟩
  have hbd := numberR_bd hk hd
  obtain ⟨⟨hlo, hhi⟩, hkq, hq⟩ := hbd
  have hp := nextP_le hq
  have HD := hide hd
  have HM := hide hm1
  clear hd hm1
  cases h1 : inR s (nextP s q) 46 46 with
  | false =>
    have HF : Hid (numberTestR s k = .inr (⟨0, 3, lo, 0⟩, nextP s q)) := hide (by unfold numberTestR; rw [unhide HD]; simp only [h1]; rfl)
    have H1 := hide h1
    clear h1
    go_wp2_with (go_at_call 149; refine (take_no _ _ q _ _ (by exact (unhide HM).rd) hs hq (by simp) (by exact unhide H1)).mono ?_; rintro e w2 ⟨rfl, hm2⟩; have HN := hide ((unhide HM).trans hm2); clear hm2; obtain ⟨c0, c1, c2, c3, f0, f1, f2, f3⟩ := cells4 ((unhide HN).kept hlt))
    exact bodyPost_ret (v := tv ⟨0, 3, lo, 0⟩) (by simp [results, Tryz.results205, go_sem, tv, c0, c1, c2, c3]) rfl (Or.inr ⟨⟨0, 3, lo, 0⟩, nextP s q, HF.out, rfl, (unhide HN).of_alloc.put4 (Nat.le_refl _) hlt _ _ _ _⟩)
  | true =>
    have hlt1 := inR_lt (by omega) h1
    have H1 := hide h1
    cases h2 : inR s (nextP s q + 1) 46 46 with
    | false =>
      have HF : Hid (numberTestR s k = .inl (nextP s q + 1)) := hide (by unfold numberTestR; rw [unhide HD]; simp only [h1, h2]; rfl)
      have H2 := hide h2
      clear h1 h2
      go_wp2_with (go_at_call 149; refine (take_yes _ _ q _ _ (by exact (unhide HM).rd) hs hq (by simp) (by exact unhide H1)).mono ?_; rintro e w2 ⟨rfl, hm2⟩; have HN := hide ((unhide HM).trans hm2); clear hm2)
      refine (mustHere_no _ _ _ _ _ (unhide HN).rd (by simp) (unhide H2)).mono ?_
      rintro e w3 ⟨rfl, hm3⟩
      have HO := hide ((unhide HN).trans hm3)
      clear hm3
      go_wp2
      exact ⟨rfl, Or.inl ⟨nextP s q + 1, HF.out, rfl, _, (unhide HO).of_alloc⟩⟩
    | true =>
      have hlt2 := inR_lt (by omega) h2
      have H2 := hide h2
      have HG : Hid (numberTestR s k = match numberR s (nextP s q + 1 + 1) with | .inl p => .inl p | .inr (hi, r) => .inr (⟨0, 4, lo, hi⟩, r)) := hide (by unfold numberTestR; rw [unhide HD]; simp only [h1, h2]; rfl)
      clear h1 h2
      go_wp2_with (go_at_call 149; refine (take_yes _ _ q _ _ (by exact (unhide HM).rd) hs hq (by simp) (by exact unhide H1)).mono ?_; rintro e w2 ⟨rfl, hm2⟩; have HN := hide ((unhide HM).trans hm2); clear hm2)
      refine (mustHere_yes _ _ _ _ _ (unhide HN).rd hs (by simp) (unhide H2)).mono ?_
      rintro e w3 ⟨rfl, hm3⟩
      have HO := hide ((unhide HN).trans hm3)
      clear hm3 HN
      go_wp2_with fail
      refine (number_any _ _ _ _ (unhide HO).rd hs (by omega)).mono ?_
      rintro e w4 (⟨p, hd, rfl, m, hm4⟩ | ⟨hi, r, hd, rfl, hm4⟩)
      · have HF : Hid (numberTestR s k = .inl p) := hide (by rw [unhide HG, hd])
        have HP := hide ((unhide HO).trans hm4)
        clear hd hm4
        go_wp2
        exact ⟨rfl, Or.inl ⟨p, HF.out, rfl, m, (unhide HP).of_alloc⟩⟩
      · have HF : Hid (numberTestR s k = .inr (⟨0, 4, lo, hi⟩, r)) := hide (by rw [unhide HG, hd])
        have HP := hide ((unhide HO).trans hm4)
        clear hd hm4
        obtain ⟨c0, c1, c2, c3, f0, f1, f2, f3⟩ := cells4 ((unhide HP).kept hlt)
        go_wp2
        exact bodyPost_ret (v := tv ⟨0, 4, lo, hi⟩) (by simp [results, Tryz.results205, go_sem, tv, c0, c1, c2, c3]) rfl (Or.inr ⟨⟨0, 4, lo, hi⟩, r, HF.out, rfl, (unhide HP).of_alloc.put4 (Nat.le_refl _) hlt _ _ _ _⟩)

end Go.Proofs.YthnggjaecngbiaaGreatDoor

