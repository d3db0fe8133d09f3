import Derived.Test.YthnggjaecngbiaaDoorRdG
namespace Go.Proofs.YthnggjaecngbiaaDoor
open Go.RowKit

/-- The signs of exclamation at k: how many, and where the next thing begins. -/
def bangs (s : ByteArray) : Nat → Nat → Nat → Nat × Nat
  | 0, k, n => (n, nextP s k)
  | f + 1, k, n => if inR s (nextP s k) 33 33 then bangs s f (nextP s k + 1) (n + 1) else (n, nextP s k)
theorem bangs_stop {s : ByteArray} {k : Nat} (h : inR s (nextP s k) 33 33 = false) (f n : Nat) : bangs s f k n = (n, nextP s k) := by
  cases f with
  | zero => rfl
  | succ f => rw [bangs, h]; rfl
def testR (s : ByteArray) (k : Nat) : Res PTest :=
  match bareTestR s (bangs s (s.size - k) k 0).2 with
  | .inl p => .inl p
  | .inr (t, q) => .inr ({ t with nots := (bangs s (s.size - k) k 0).1 }, q)

theorem Moved.put1 {T : TypeId} {b : Nat} {s : ByteArray} {k : Nat} {w w' : World} (h : Moved T b s k w w') {N i : Nat} (hN : w.heap.size ≤ N) (hb : b < w.heap.size) (v : Value) : Moved T b s k w (w'.setCell ⟨N, i, none⟩ v) :=
  h.setNew (a := ⟨N, i, none⟩) hN (by simp; omega) v

set_option maxHeartbeats 1600000 in
theorem test_any (b : Nat) (s : ByteArray) (k : Nat) (w : World) (hr : Rd 54 b s k w) (hs : s.size ≤ 1000) (hk : k ≤ s.size) :
    Calls Tryd.prog 61 #[.pointer (some ⟨b, 0, none⟩)] w fun e w' => (∃ p, testR s k = .inl p ∧ e = .panicked [{ v := .iface 36 (.agg #[.int .i64 (p : Int)]), recovered := false }] ∧ ∃ m, Moved 54 b s m w w') ∨ (∃ t q, testR s k = .inr (t, q) ∧ e = .returned (tv t) ∧ Moved 54 b s q w w') := by
  have hlt := hr.lt
  have HR0 : Hid (Moved 54 b s k (w.alloc (.cells #[.int .i64 0, .int .i64 0, .int .i64 0, .int .i64 0] 74)) (w.alloc (.cells #[.int .i64 0, .int .i64 0, .int .i64 0, .int .i64 0] 74))) := hide (Moved.refl (hr.alloc _))
  clear hr
  go_enter Tryd.func61, Tryd.ntmps61
  go_wp2_with fail
  go_loopg [3] (s.size - k) (fun g n wr => ∃ m f j : Nat, m ≤ s.size ∧ s.size - m ≤ f ∧ j ≤ m ∧ g = s.size - m ∧ bangs s f m j = bangs s (s.size - k) k 0 ∧ n = .int .i64 (j : Int) ∧ Moved 54 b s m (w.alloc (.cells #[.int .i64 0, .int .i64 0, .int .i64 0, .int .i64 0] 74)) wr)
  case atStart => exact ⟨k, s.size - k, 0, hk, Nat.le_refl _, by omega, rfl, rfl, rfl, unhide HR0⟩
  case round =>
    obtain ⟨m, f, j, hm, hf, hj, hg, hn, rfl, hmv⟩ := hrel
    have A : Aside (gk = s.size - m ∧ bangs s f m j = bangs s (s.size - k) k 0 ∧ Moved 54 b s m (w.alloc (.cells #[.int .i64 0, .int .i64 0, .int .i64 0, .int .i64 0] 74)) wr) := ⟨hg, hn, hmv⟩
    clear hg hn hmv HR0
    cases h1 : inR s (nextP s m) 33 33 with
    | true =>
      have hlt1 := inR_lt (by omega) h1
      have hge := nextP_ge s m
      have H1 := hide h1
      clear h1
      go_wp2_with (go_at_call 42; refine (take_yes _ _ m _ _ (by exact A.out.2.2.rd) hs hm (by simp) (by exact unhide H1)).mono ?_; rintro e w2 ⟨rfl, hm2⟩; have HN := hide (A.out.2.2.trans hm2); clear hm2)
      go_roundg (s.size - (nextP s m + 1))
      case measure => have := A.out.1; omega
      case rel =>
        obtain ⟨hg, hn, hmv⟩ := A.out
        obtain ⟨f', rfl⟩ : ∃ f', f = f' + 1 := ⟨f - 1, by omega⟩
        refine ⟨nextP s m + 1, f', j + 1, by omega, by omega, by omega, rfl, ?_, by go_num, unhide HN⟩
        rw [← hn, bangs, if_pos (unhide H1)]
    | false =>
      have HB : Hid (bangs s (s.size - k) k 0 = (j, nextP s m)) := hide (by rw [← A.out.2.1]; exact bangs_stop h1 _ _)
      have hp := nextP_le hm
      have H1 := hide h1
      clear h1
      go_wp2_with (go_at_call 42; refine (take_no _ _ m _ _ (by exact A.out.2.2.rd) hs hm (by simp) (by exact unhide H1)).mono ?_; rintro e w2 ⟨rfl, hm2⟩; have HN := hide (A.out.2.2.trans hm2); clear hm2)
      refine (bareTest_any _ _ _ _ (unhide HN).rd hs hp).mono ?_
      rintro e w4 (⟨p, hd, rfl, m, hm4⟩ | ⟨t, r, hd, rfl, hm4⟩)
      · have HF : Hid (testR s k = .inl p) := hide (by unfold testR; rw [unhide HB, hd])
        have HP := hide ((unhide HN).trans hm4)
        clear hd hm4
        go_wp2
        exact ⟨rfl, Or.inl ⟨p, HF.out, rfl, m, (unhide HP).of_alloc⟩⟩
      · obtain ⟨t0, t1, t2, t3⟩ := t
        have HF : Hid (testR s k = .inr (⟨j, t1, t2, t3⟩, r)) := hide (by unfold testR; rw [unhide HB, hd])
        have HP := hide ((unhide HN).trans hm4)
        have hsz : w.heap.size < w4.heap.size := by have := ((unhide HP)).size; simp at this; omega
        clear hd hm4
        obtain ⟨c0, c1, c2, c3, f0, f1, f2, f3⟩ := cells4 ((unhide HP).kept hlt)
        simp only [tv]
        go_wp2
        exact bodyPost_ret (v := tv ⟨j, t1, t2, t3⟩) (by simp [results, Tryd.results61, go_sem, tv, c0, c1, c2, c3, hsz]) rfl (Or.inr ⟨⟨j, t1, t2, t3⟩, r, HF.out, rfl, ((unhide HP).of_alloc.put4 (Nat.le_refl _) hlt _ _ _ _).alloc _⟩)

end Go.Proofs.YthnggjaecngbiaaDoor
