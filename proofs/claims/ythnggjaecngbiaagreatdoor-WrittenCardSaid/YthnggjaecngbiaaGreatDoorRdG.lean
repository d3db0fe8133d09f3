import Derived.Test.YthnggjaecngbiaaGreatDoorRdD
namespace Go.Proofs.YthnggjaecngbiaaGreatDoor
open Go.RowKit

def withNum (k : Int) : Res Int → Res PTest
  | .inl p => .inl p
  | .inr (v, q) => .inr (⟨0, k, v, 0⟩, q)

def bareTestR (s : ByteArray) (k : Nat) : Res PTest :=
  if inR s (nextP s k) 95 95 then .inr (⟨0, 0, 0, 0⟩, nextP s k + 1)
  else if inR s (nextP s k) 60 60 then withNum 5 (numberR s (nextP s k + 1))
  else if inR s (nextP s k) 62 62 then withNum 6 (numberR s (nextP s k + 1))
  else if inR s (nextP s k) 97 122 then wordTestR s (nextP s k)
  else numberTestR s (nextP s k)

set_option maxHeartbeats 1600000 in
theorem bareTest_any (b : Nat) (s : ByteArray) (k : Nat) (w : World) (hr : Rd 152 b s k w) (hs : s.size ≤ 1000) (hk : k ≤ s.size) :
    Calls Tryz.prog 194 #[.pointer (some ⟨b, 0, none⟩)] w fun e w' => (∃ p, bareTestR s k = .inl p ∧ e = .panicked [{ v := .iface 110 (.agg #[.int .i64 (p : Int)]), recovered := false }] ∧ ∃ m, Moved 152 b s m w w') ∨ (∃ t q, bareTestR s k = .inr (t, q) ∧ e = .returned (tv t) ∧ Moved 152 b s q w w') := by
  have hlt := hr.lt
  have hp := nextP_le hk
  have hid := nextP_idem hk
  have HR0 : Hid (Moved 152 b s k (w.alloc (.cells #[.int .i64 0, .int .i64 0, .int .i64 0, .int .i64 0] 193)) (w.alloc (.cells #[.int .i64 0, .int .i64 0, .int .i64 0, .int .i64 0] 193))) := hide (Moved.refl (hr.alloc _))
  clear hr
  cases h1 : inR s (nextP s k) 95 95 with
  | true =>
    have HF : Hid (bareTestR s k = .inr (⟨0, 0, 0, 0⟩, nextP s k + 1)) := hide (by unfold bareTestR; rw [if_pos h1])
    have H1 := hide h1
    clear h1 hid
    go_enter Tryz.func194, Tryz.ntmps194
    go_wp2_with (go_at_call 149; refine (take_yes _ _ k _ _ (by exact (unhide HR0).rd) hs hk (by simp) (by exact unhide H1)).mono ?_; rintro e w1 ⟨rfl, hm2⟩; have HN := hide ((unhide HR0).trans hm2); clear hm2; obtain ⟨c0, c1, c2, c3, f0, f1, f2, f3⟩ := cells4 ((unhide HN).kept hlt))
    exact bodyPost_ret (v := tv ⟨0, 0, 0, 0⟩) (by simp [results, Tryz.results194, go_sem, tv, c0, c1, c2, c3]) rfl (Or.inr ⟨⟨0, 0, 0, 0⟩, nextP s k + 1, HF.out, rfl, (unhide HN).of_alloc.put4 (Nat.le_refl _) hlt _ _ _ _⟩)
  | false =>
  have H1 : Hid (inR s (nextP s (nextP s k)) 95 95 = false ∧ inR s (nextP s k) 95 95 = false) := ⟨by rw [hid]; exact h1, h1⟩
  have HI := hide hid
  clear h1 hid
  cases h2 : inR s (nextP s k) 60 60 with
  | true =>
    have hlt2 := inR_lt (by omega) h2
    have HG : Hid (bareTestR s k = withNum 5 (numberR s (nextP s k + 1))) := hide (by unfold bareTestR; rw [if_neg (by rw [H1.out.2]; simp), if_pos h2])
    have H2 : Hid (inR s (nextP s (nextP s k)) 60 60 = true) := hide (by rw [unhide HI]; exact h2)
    clear h2
    go_enter Tryz.func194, Tryz.ntmps194
    go_wp2_with fail
    refine (take_no _ _ k _ _ (unhide HR0).rd hs hk (by simp) H1.out.2).mono ?_
    rintro e w1 ⟨rfl, hm⟩
    have HR1 := hide ((unhide HR0).trans hm)
    clear hm
    go_wp2_with fail
    refine (take_yes _ _ _ _ _ (unhide HR1).rd hs hp (by simp) (unhide H2)).mono ?_
    rintro e w2 ⟨rfl, hm⟩
    rw [unhide HI] at hm
    have HR2 := hide ((unhide HR1).trans hm)
    clear hm
    go_wp2_with fail
    refine (number_any _ _ _ _ (unhide HR2).rd hs (by omega)).mono ?_
    rintro e w4 (⟨p, hd, rfl, m, hm4⟩ | ⟨v, r, hd, rfl, hm4⟩)
    · have HF : Hid (bareTestR s k = .inl p) := hide (by rw [unhide HG, hd]; rfl)
      have HP := hide ((unhide HR2).trans hm4)
      clear hd hm4
      go_wp2
      exact ⟨rfl, Or.inl ⟨p, HF.out, rfl, m, (unhide HP).of_alloc⟩⟩
    · have HF : Hid (bareTestR s k = .inr (⟨0, 5, v, 0⟩, r)) := hide (by rw [unhide HG, hd]; rfl)
      have HP := hide ((unhide HR2).trans hm4)
      clear hd hm4
      obtain ⟨c0, c1, c2, c3, f0, f1, f2, f3⟩ := cells4 ((unhide HP).kept hlt)
      go_wp2
      exact bodyPost_ret (v := tv ⟨0, 5, v, 0⟩) (by simp [results, Tryz.results194, go_sem, tv, c0, c1, c2, c3]) rfl (Or.inr ⟨⟨0, 5, v, 0⟩, r, HF.out, rfl, (unhide HP).of_alloc.put4 (Nat.le_refl _) hlt _ _ _ _⟩)
  | false =>
  have H2 : Hid (inR s (nextP s (nextP s k)) 60 60 = false ∧ inR s (nextP s k) 60 60 = false) := ⟨by rw [unhide HI]; exact h2, h2⟩
  clear h2
  cases h3 : inR s (nextP s k) 62 62 with
  | true =>
    have hlt2 := inR_lt (by omega) h3
    have HG : Hid (bareTestR s k = withNum 6 (numberR s (nextP s k + 1))) := hide (by unfold bareTestR; rw [if_neg (by rw [H1.out.2]; simp), if_neg (by rw [H2.out.2]; simp), if_pos h3])
    have H3 : Hid (inR s (nextP s (nextP s k)) 62 62 = true) := hide (by rw [unhide HI]; exact h3)
    clear h3
    go_enter Tryz.func194, Tryz.ntmps194
    go_wp2_with fail
    refine (take_no _ _ k _ _ (unhide HR0).rd hs hk (by simp) H1.out.2).mono ?_
    rintro e w1 ⟨rfl, hm⟩
    have HR1 := hide ((unhide HR0).trans hm)
    clear hm
    go_wp2_with fail
    refine (take_no _ _ _ _ _ (unhide HR1).rd hs hp (by simp) H2.out.1).mono ?_
    rintro e w1' ⟨rfl, hm⟩
    rw [unhide HI] at hm
    have HR1' := hide ((unhide HR1).trans hm)
    clear hm
    go_wp2_with fail
    refine (take_yes _ _ _ _ _ (unhide HR1').rd hs hp (by simp) (unhide H3)).mono ?_
    rintro e w2 ⟨rfl, hm⟩
    rw [unhide HI] at hm
    have HR2 := hide ((unhide HR1').trans hm)
    clear hm
    go_wp2_with fail
    refine (number_any _ _ _ _ (unhide HR2).rd hs (by omega)).mono ?_
    rintro e w4 (⟨p, hd, rfl, m, hm4⟩ | ⟨v, r, hd, rfl, hm4⟩)
    · have HF : Hid (bareTestR s k = .inl p) := hide (by rw [unhide HG, hd]; rfl)
      have HP := hide ((unhide HR2).trans hm4)
      clear hd hm4
      go_wp2
      exact ⟨rfl, Or.inl ⟨p, HF.out, rfl, m, (unhide HP).of_alloc⟩⟩
    · have HF : Hid (bareTestR s k = .inr (⟨0, 6, v, 0⟩, r)) := hide (by rw [unhide HG, hd]; rfl)
      have HP := hide ((unhide HR2).trans hm4)
      clear hd hm4
      obtain ⟨c0, c1, c2, c3, f0, f1, f2, f3⟩ := cells4 ((unhide HP).kept hlt)
      go_wp2
      exact bodyPost_ret (v := tv ⟨0, 6, v, 0⟩) (by simp [results, Tryz.results194, go_sem, tv, c0, c1, c2, c3]) rfl (Or.inr ⟨⟨0, 6, v, 0⟩, r, HF.out, rfl, (unhide HP).of_alloc.put4 (Nat.le_refl _) hlt _ _ _ _⟩)
  | false =>
  have H3 : Hid (inR s (nextP s (nextP s k)) 62 62 = false ∧ inR s (nextP s k) 62 62 = false) := ⟨by rw [unhide HI]; exact h3, h3⟩
  clear h3
  cases h4 : inR s (nextP s k) 97 122
  case true =>
    have HG : Hid (bareTestR s k = wordTestR s (nextP s k)) := hide (by unfold bareTestR; rw [if_neg (by rw [H1.out.2]; simp), if_neg (by rw [H2.out.2]; simp), if_neg (by rw [H3.out.2]; simp), if_pos h4])
    have H4 := hide h4
    clear h4
    go_enter Tryz.func194, Tryz.ntmps194
    go_wp2_with fail
    refine (take_no _ _ k _ _ (unhide HR0).rd hs hk (by simp) H1.out.2).mono ?_
    rintro e w1 ⟨rfl, hm⟩
    have HR1 := hide ((unhide HR0).trans hm)
    clear hm
    go_wp2_with fail
    refine (take_no _ _ _ _ _ (unhide HR1).rd hs hp (by simp) H2.out.1).mono ?_
    rintro e w1' ⟨rfl, hm⟩
    rw [unhide HI] at hm
    have HR1' := hide ((unhide HR1).trans hm)
    clear hm
    go_wp2_with fail
    refine (take_no _ _ _ _ _ (unhide HR1').rd hs hp (by simp) H3.out.1).mono ?_
    rintro e w2 ⟨rfl, hm⟩
    rw [unhide HI] at hm
    have HR2 := hide ((unhide HR1').trans hm)
    clear hm
    go_wp2_with fail
    refine (within_any _ _ (nextP s k) _ _ _ (unhide HR2).rd (by simp)).mono ?_
    rintro e w2' ⟨rfl, n, rfl⟩
    rw [unhide H4]
    have HR3 := hide ((unhide HR2).drewN n)
    go_wp2_with fail
    refine (wordTest_any _ _ _ _ (unhide HR3).rd hs hp).mono ?_
    rintro e w4 (⟨p, hd, rfl, m, hm4⟩ | ⟨t, r, hd, rfl, hm4⟩)
    · have HF : Hid (bareTestR s k = .inl p) := hide (by rw [unhide HG, hd])
      have HP := hide ((unhide HR3).trans hm4)
      clear hd hm4
      go_wp2
      exact ⟨rfl, Or.inl ⟨p, HF.out, rfl, m, (unhide HP).of_alloc⟩⟩
    · have HF : Hid (bareTestR s k = .inr (t, r)) := hide (by rw [unhide HG, hd])
      have HP := hide ((unhide HR3).trans hm4)
      clear hd hm4
      obtain ⟨c0, c1, c2, c3, f0, f1, f2, f3⟩ := cells4 ((unhide HP).kept hlt)
      obtain ⟨t0, t1, t2, t3⟩ := t
      simp only [tv]
      go_wp2
      exact bodyPost_ret (v := tv ⟨t0, t1, t2, t3⟩) (by simp [results, Tryz.results194, go_sem, tv, c0, c1, c2, c3]) rfl (Or.inr ⟨⟨t0, t1, t2, t3⟩, r, HF.out, rfl, (unhide HP).of_alloc.put4 (Nat.le_refl _) hlt _ _ _ _⟩)
  case false =>
    have HG : Hid (bareTestR s k = numberTestR s (nextP s k)) := hide (by unfold bareTestR; rw [if_neg (by rw [H1.out.2]; simp), if_neg (by rw [H2.out.2]; simp), if_neg (by rw [H3.out.2]; simp), if_neg (by rw [h4]; simp)])
    have H4 := hide h4
    clear h4
    go_enter Tryz.func194, Tryz.ntmps194
    go_wp2_with fail
    refine (take_no _ _ k _ _ (unhide HR0).rd hs hk (by simp) H1.out.2).mono ?_
    rintro e w1 ⟨rfl, hm⟩
    have HR1 := hide ((unhide HR0).trans hm)
    clear hm
    go_wp2_with fail
    refine (take_no _ _ _ _ _ (unhide HR1).rd hs hp (by simp) H2.out.1).mono ?_
    rintro e w1' ⟨rfl, hm⟩
    rw [unhide HI] at hm
    have HR1' := hide ((unhide HR1).trans hm)
    clear hm
    go_wp2_with fail
    refine (take_no _ _ _ _ _ (unhide HR1').rd hs hp (by simp) H3.out.1).mono ?_
    rintro e w2 ⟨rfl, hm⟩
    rw [unhide HI] at hm
    have HR2 := hide ((unhide HR1').trans hm)
    clear hm
    go_wp2_with fail
    refine (within_any _ _ (nextP s k) _ _ _ (unhide HR2).rd (by simp)).mono ?_
    rintro e w2' ⟨rfl, n, rfl⟩
    rw [unhide H4]
    have HR3 := hide ((unhide HR2).drewN n)
    go_wp2_with fail
    refine (numberTest_any _ _ _ _ (unhide HR3).rd hs hp).mono ?_
    rintro e w4 (⟨p, hd, rfl, m, hm4⟩ | ⟨t, r, hd, rfl, hm4⟩)
    · have HF : Hid (bareTestR s k = .inl p) := hide (by rw [unhide HG, hd])
      have HP := hide ((unhide HR3).trans hm4)
      clear hd hm4
      go_wp2
      exact ⟨rfl, Or.inl ⟨p, HF.out, rfl, m, (unhide HP).of_alloc⟩⟩
    · have HF : Hid (bareTestR s k = .inr (t, r)) := hide (by rw [unhide HG, hd])
      have HP := hide ((unhide HR3).trans hm4)
      clear hd hm4
      obtain ⟨c0, c1, c2, c3, f0, f1, f2, f3⟩ := cells4 ((unhide HP).kept hlt)
      obtain ⟨t0, t1, t2, t3⟩ := t
      simp only [tv]
      go_wp2
      exact bodyPost_ret (v := tv ⟨t0, t1, t2, t3⟩) (by simp [results, Tryz.results194, go_sem, tv, c0, c1, c2, c3]) rfl (Or.inr ⟨⟨t0, t1, t2, t3⟩, r, HF.out, rfl, (unhide HP).of_alloc.put4 (Nat.le_refl _) hlt _ _ _ _⟩)

end Go.Proofs.YthnggjaecngbiaaGreatDoor

namespace Go.Proofs.YthnggjaecngbiaaGreatDoor
open Go.RowKit

/-- The signs of exclamation at k: how many, and where the next thing begins. -/
def bangs (s : ByteArray) : Nat → Nat → Nat → Nat × Nat
  | 0, k, n => (n, nextP s k)
  | f + 1, k, n => if inR s (nextP s k) 33 33 then bangs s f (nextP s k + 1) (n + 1) else (n, nextP s k)
theorem bangs_stop {s : ByteArray} {k : Nat} (h : inR s (nextP s k) 33 33 = false) (f n : Nat) : bangs s f k n = (n, nextP s k) := by
  cases f with
  | zero => rfl
  | succ f => rw [bangs, h]; rfl
def testR (s : ByteArray) (k : Nat) : Res PTest :=
  match bareTestR s (bangs s (s.size - k) k 0).2 with
  | .inl p => .inl p
  | .inr (t, q) => .inr ({ t with nots := (bangs s (s.size - k) k 0).1 }, q)

theorem Moved.put1 {T : TypeId} {b : Nat} {s : ByteArray} {k : Nat} {w w' : World} (h : Moved T b s k w w') {N i : Nat} (hN : w.heap.size ≤ N) (hb : b < w.heap.size) (v : Value) : Moved T b s k w (w'.setCell ⟨N, i, none⟩ v) :=
  h.setNew (a := ⟨N, i, none⟩) hN (by simp; omega) v

set_option maxHeartbeats 1600000 in
theorem test_any (b : Nat) (s : ByteArray) (k : Nat) (w : World) (hr : Rd 152 b s k w) (hs : s.size ≤ 1000) (hk : k ≤ s.size) :
    Calls Tryz.prog 176 #[.pointer (some ⟨b, 0, none⟩)] w fun e w' => (∃ p, testR s k = .inl p ∧ e = .panicked [{ v := .iface 110 (.agg #[.int .i64 (p : Int)]), recovered := false }] ∧ ∃ m, Moved 152 b s m w w') ∨ (∃ t q, testR s k = .inr (t, q) ∧ e = .returned (tv t) ∧ Moved 152 b s q w w') := by
  have hlt := hr.lt
  have HR0 : Hid (Moved 152 b s k (w.alloc (.cells #[.int .i64 0, .int .i64 0, .int .i64 0, .int .i64 0] 193)) (w.alloc (.cells #[.int .i64 0, .int .i64 0, .int .i64 0, .int .i64 0] 193))) := hide (Moved.refl (hr.alloc _))
  clear hr
  go_enter Tryz.func176, Tryz.ntmps176
  go_wp2_with fail
  go_loopg [3] (s.size - k) (fun g n wr => ∃ m f j : Nat, m ≤ s.size ∧ s.size - m ≤ f ∧ j ≤ m ∧ g = s.size - m ∧ bangs s f m j = bangs s (s.size - k) k 0 ∧ n = .int .i64 (j : Int) ∧ Moved 152 b s m (w.alloc (.cells #[.int .i64 0, .int .i64 0, .int .i64 0, .int .i64 0] 193)) wr)
  case atStart => exact ⟨k, s.size - k, 0, hk, Nat.le_refl _, by omega, rfl, rfl, rfl, unhide HR0⟩
  case round =>
    obtain ⟨m, f, j, hm, hf, hj, hg, hn, rfl, hmv⟩ := hrel
    have A : Aside (gk = s.size - m ∧ bangs s f m j = bangs s (s.size - k) k 0 ∧ Moved 152 b s m (w.alloc (.cells #[.int .i64 0, .int .i64 0, .int .i64 0, .int .i64 0] 193)) wr) := ⟨hg, hn, hmv⟩
    clear hg hn hmv HR0
    cases h1 : inR s (nextP s m) 33 33 with
    | true =>
      have hlt1 := inR_lt (by omega) h1
      have hge := nextP_ge s m
      have H1 := hide h1
      clear h1
      go_wp2_with (go_at_call 149; refine (take_yes _ _ m _ _ (by exact A.out.2.2.rd) hs hm (by simp) (by exact unhide H1)).mono ?_; rintro e w2 ⟨rfl, hm2⟩; have HN := hide (A.out.2.2.trans hm2); clear hm2)
      go_roundg (s.size - (nextP s m + 1))
      case measure => have := A.out.1; omega
      case rel =>
        obtain ⟨hg, hn, hmv⟩ := A.out
        obtain ⟨f', rfl⟩ : ∃ f', f = f' + 1 := ⟨f - 1, by omega⟩
        refine ⟨nextP s m + 1, f', j + 1, by omega, by omega, by omega, rfl, ?_, by go_num, unhide HN⟩
        rw [← hn, bangs, if_pos (unhide H1)]
    | false =>
      have HB : Hid (bangs s (s.size - k) k 0 = (j, nextP s m)) := hide (by rw [← A.out.2.1]; exact bangs_stop h1 _ _)
      have hp := nextP_le hm
      have H1 := hide h1
      clear h1
      go_wp2_with (go_at_call 149; refine (take_no _ _ m _ _ (by exact A.out.2.2.rd) hs hm (by simp) (by exact unhide H1)).mono ?_; rintro e w2 ⟨rfl, hm2⟩; have HN := hide (A.out.2.2.trans hm2); clear hm2)
      refine (bareTest_any _ _ _ _ (unhide HN).rd hs hp).mono ?_
      rintro e w4 (⟨p, hd, rfl, m, hm4⟩ | ⟨t, r, hd, rfl, hm4⟩)
      · have HF : Hid (testR s k = .inl p) := hide (by unfold testR; rw [unhide HB, hd])
        have HP := hide ((unhide HN).trans hm4)
        clear hd hm4
        go_wp2
        exact ⟨rfl, Or.inl ⟨p, HF.out, rfl, m, (unhide HP).of_alloc⟩⟩
      · obtain ⟨t0, t1, t2, t3⟩ := t
        have HF : Hid (testR s k = .inr (⟨j, t1, t2, t3⟩, r)) := hide (by unfold testR; rw [unhide HB, hd])
        have HP := hide ((unhide HN).trans hm4)
        have hsz : w.heap.size < w4.heap.size := by have := ((unhide HP)).size; simp at this; omega
        clear hd hm4
        obtain ⟨c0, c1, c2, c3, f0, f1, f2, f3⟩ := cells4 ((unhide HP).kept hlt)
        simp only [tv]
        go_wp2
        exact bodyPost_ret (v := tv ⟨j, t1, t2, t3⟩) (by simp [results, Tryz.results176, go_sem, tv, c0, c1, c2, c3, hsz]) rfl (Or.inr ⟨⟨j, t1, t2, t3⟩, r, HF.out, rfl, ((unhide HP).of_alloc.put4 (Nat.le_refl _) hlt _ _ _ _).alloc _⟩)

end Go.Proofs.YthnggjaecngbiaaGreatDoor

