import Derived.Test.YtdgbmcbkbkbdoaaGreatDoorRfD
namespace Go.Proofs.YtdgbmcbkbkbdoaaGreatDoor
open Go.RowKit

theorem rnumber_yes (b : Nat) (s : ByteArray) (k : Nat) (far : Bool) (w : World) (hr : RR b s k false far w) (hs : s.size ≤ 1000) (hk : k ≤ s.size) (hb : nextP s k = k) {v : Int} {q : Nat} (h : numberR s k = .inr (v, q)) :
    Calls Tryz.prog 150 #[.pointer (some ⟨b, 0, none⟩)] w fun e w' => e = .returned (.int .i64 v) ∧ Mv b w w' ∧ RR b s (nextP s q) false (far || farV v) w' := by
  refine (rnumber_any b s k far w hr hs hk hb).mono ?_
  rintro e w' (⟨p, h1, _⟩ | ⟨v', q', h1, h2⟩)
  · rw [h] at h1; cases h1
  · rw [h] at h1; cases h1; exact h2
theorem rnumber_no (b : Nat) (s : ByteArray) (k : Nat) (far : Bool) (w : World) (hr : RR b s k false far w) (hs : s.size ≤ 1000) (hk : k ≤ s.size) (hb : nextP s k = k) {p : Nat} (h : numberR s k = .inl p) :
    Calls Tryz.prog 150 #[.pointer (some ⟨b, 0, none⟩)] w fun e w' => e = .returned (.int .i64 0) ∧ Mv b w w' ∧ RR b s p true far w' := by
  refine (rnumber_any b s k far w hr hs hk hb).mono ?_
  rintro e w' (⟨p, h1, h2⟩ | ⟨v', q', h1, h2⟩)
  · rw [h] at h1; cases h1; exact h2
  · rw [h] at h1; cases h1

set_option maxHeartbeats 800000 in
theorem rnumber_bad (b : Nat) (s : ByteArray) (k : Nat) (far : Bool) (w : World) (hr : RR b s k true far w) :
    Calls Tryz.prog 150 #[.pointer (some ⟨b, 0, none⟩)] w fun e w' => e = .returned (.int .i64 0) ∧ Mv b w w' ∧ RR b s k true far w' := by
  have h2 := hr.badC
  have hf2 := hr.free 2
  have H := hide hr
  clear hr
  go_enter Tryz.func150, Tryz.ntmps150
  go_wp2_with (go_at_call 121; refine (rhere_any _ _ k true far _ (by exact unhide H)).mono ?_; rintro e w' ⟨rfl, n, rfl⟩; rw [hv_bad])
  go_loopg [4, 5] 0 (fun _ nv kv wr => nv = .int .i64 0 ∧ kv = .int .i64 0 ∧ ∃ n, wr = w.drewN n)
  case atStart => exact ⟨rfl, rfl, _, rfl⟩
  case round =>
    obtain ⟨rfl, rfl, n, rfl⟩ := hrel
    go_wp2_with (first | (go_at_call 121; refine (rhere_any _ _ k true far _ (by exact (unhide H).drewN _)).mono ?_; rintro e w' ⟨rfl, n, rfl⟩; rw [hv_bad]) | (go_at_call 168; refine (rdigit_any _ _).mono ?_; rintro e w2' ⟨rfl, hw2⟩; rw [show isDig 0 = false from rfl]; subst hw2))
    go_ret
    exact ⟨rfl, ((Mv.refl b w).drewN _).set _ _, ((unhide H).drewN _).setBad true⟩

def mk99 (s : ByteArray) (m : Nat) (n : Int) : Int × Nat := if inR s m 99 99 then (n + 4, m + 1) else (n, m)
def mk98 (s : ByteArray) (m : Nat) (n : Int) : Int × Nat := if inR s m 98 98 then mk99 s (m + 1) (n + 2) else if inR s m 99 99 then (n + 4, m + 1) else (n, m)
def mk97 (s : ByteArray) (m : Nat) (n : Int) : Int × Nat := if inR s m 97 97 then mk98 s (m + 1) (n + 1) else if inR s m 98 98 then mk99 s (m + 1) (n + 2) else if inR s m 99 99 then (n + 4, m + 1) else (n, m)
def mkF (s : ByteArray) (l : Int) (m : Nat) (n : Int) : Int × Nat := if l = 97 then mk97 s m n else if l = 98 then mk98 s m n else if l = 99 then mk99 s m n else (n, m)

theorem mk98_eq (s : ByteArray) (m : Nat) (n : Int) : mk98 s m n = mk99 s (adv (inR s m 98 98) m) (n + (bit (inR s m 98 98) 2 : Nat)) := by
  unfold mk98
  cases h : inR s m 98 98
  · simp [adv, bit, mk99]
  · simp [adv, bit]
theorem mk97_eq (s : ByteArray) (m : Nat) (n : Int) : mk97 s m n = mk98 s (adv (inR s m 97 97) m) (n + (bit (inR s m 97 97) 1 : Nat)) := by
  unfold mk97
  cases h : inR s m 97 97
  · simp [adv, bit, mk98]
  · simp [adv, bit]
theorem mk99_eq (s : ByteArray) (m : Nat) (n : Int) : mk99 s m n = (n + (bit (inR s m 99 99) 4 : Nat), adv (inR s m 99 99) m) := by
  unfold mk99
  cases h : inR s m 99 99 <;> simp [adv, bit]
theorem mkF_first (s : ByteArray) (k : Nat) : mkF s 97 k 0 = ((mkSet s k : Int), mk3 s k) := by
  simp only [mkF, if_true]
  rw [mk97_eq, mk98_eq, mk99_eq]
  simp only [mkSet, mk3, mk2, mk1]
  congr 1
  omega
theorem inR_hv {s : ByteArray} {m : Nat} {c : Int} (hc : 0 < c) : inR s m c c = decide (hv s m false = c) := by
  rw [← hv_eq hc, Bool.eq_iff_iff]; simp
theorem mkF_step {s : ByteArray} {l c : Int} {m : Nat} {n : Int} (hl : 97 ≤ l) (hlc : l ≤ c) (hc : c ≤ 99) (h : hv s m false = c) (d : Int) (hd : c = 97 ∧ d = 1 ∨ c = 98 ∧ d = 2 ∨ c = 99 ∧ d = 4) : mkF s l m n = mkF s (c + 1) (m + 1) (n + d) := by
  unfold mkF mk97 mk98 mk99
  simp only [inR_hv (s := s) (m := m) (c := 97) (by omega), inR_hv (s := s) (m := m) (c := 98) (by omega), inR_hv (s := s) (m := m) (c := 99) (by omega), h]
  rcases hd with ⟨rfl, rfl⟩ | ⟨rfl, rfl⟩ | ⟨rfl, rfl⟩
  · obtain rfl : l = 97 := by omega
    simp
  · rcases (by omega : l = 97 ∨ l = 98) with rfl | rfl <;> simp
  · rcases (by omega : l = 97 ∨ l = 98 ∨ l = 99) with rfl | rfl | rfl <;> simp
theorem mkF_stop {s : ByteArray} {l : Int} {m : Nat} {n : Int} (_hl : 97 ≤ l) (h : ¬ (l ≤ hv s m false ∧ hv s m false ≤ 99)) : mkF s l m n = (n, m) := by
  unfold mkF mk97 mk98 mk99
  simp only [inR_hv (s := s) (m := m) (c := 97) (by omega), inR_hv (s := s) (m := m) (c := 98) (by omega), inR_hv (s := s) (m := m) (c := 99) (by omega)]
  split
  · rw [if_neg (by simp; omega), if_neg (by simp; omega), if_neg (by simp; omega)]
  · split
    · rw [if_neg (by simp; omega), if_neg (by simp; omega)]
    · split
      · rw [if_neg (by simp; omega)]
      · rfl

set_option maxHeartbeats 1600000 in
theorem rmarks_any (b : Nat) (s : ByteArray) (k : Nat) (far : Bool) (w : World) (hr : RR b s k false far w) (hs : s.size ≤ 1000) (hk : k ≤ s.size) :
    Calls Tryz.prog 124 #[.pointer (some ⟨b, 0, none⟩)] w fun e w' => (∃ p, marksR s k = .inl p ∧ e = .returned (.int .i64 0) ∧ Mv b w w' ∧ RR b s p true far w') ∨ (∃ v q, marksR s k = .inr (v, q) ∧ e = .returned (.int .i64 (v : Int)) ∧ Mv b w w' ∧ RR b s (nextP s q) false far w') := by
  have H := hide hr
  clear hr
  go_enter Tryz.func124, Tryz.ntmps124
  go_wp2_with fail
  go_loopg [3, 4] 3 (fun g nv lv wr => ∃ (l n : Int) (m : Nat), 97 ≤ l ∧ l ≤ 100 ∧ (g : Int) = 100 - l ∧ m ≤ s.size ∧ 0 ≤ n ∧ n ≤ 100 * (l - 97) ∧ nv = .int .i64 n ∧ lv = .int .u8 l ∧ mkF s l m n = ((mkSet s k : Int), mk3 s k) ∧ Mv b w wr ∧ RR b s m false far wr)
  case atStart => exact ⟨97, 0, k, by omega, by omega, by omega, hk, by omega, by omega, rfl, rfl, mkF_first s k, Mv.refl _ _, unhide H⟩
  case round =>
    obtain ⟨l, nn, m, hl, hl1, hg, hm, hn0, hn1, rfl, rfl, hF, hmv, hrd⟩ := hrel
    clear H
    have h1 := hrd.at
    have h2 := hrd.badC
    have hf1 := hrd.free 1
    have hf2 := hrd.free 2
    have A : Aside ((gk : Int) = 100 - l ∧ mkF s l m nn = ((mkSet s k : Int), mk3 s k) ∧ Mv b w wr ∧ RR b s m false far wr) := ⟨hg, hF, hmv, hrd⟩
    clear hg hF hmv hrd
    by_cases hin : l ≤ hv s m false ∧ hv s m false ≤ 99
    · have hlt : m < s.size := by
        rcases Nat.lt_or_ge m s.size with h | h
        · exact h
        · rw [hv_out h] at hin; omega
      obtain ⟨hin1, hin2⟩ := hin
      rcases (by omega : hv s m false = 97 ∨ hv s m false = 98 ∨ hv s m false = 99) with hc | hc | hc
      · rw [hc] at hin1
        have hd1 : decide (l ≤ 97) = true := by simpa using hin1
        have HX := hide hc
        clear hc hin2
        go_wp2_with (go_at_call 121; refine (rhere_any _ _ m false far _ (by exact A.out.2.2.2)).mono ?_; rintro e w' ⟨rfl, n, rfl⟩; rw [unhide HX])
        go_roundg 2
        case measure => have := A.out.1; omega
        case rel =>
          obtain ⟨hg, hF, hmv, hrd⟩ := A.out
          refine ⟨98, nn + 1, m + 1, by omega, by omega, by omega, by omega, by omega, by omega, rfl, rfl, ?_, (hmv.drewN _).set _ _, ?_⟩
          · rw [← hF]; exact (mkF_step hl hin1 (by omega) (unhide HX) 1 (.inl ⟨rfl, rfl⟩)).symm
          · rw [show ((m : Int) + 1) = ((m + 1 : Nat) : Int) from by omega]
            exact (hrd.drewN _).setAt (m + 1)
      · rw [hc] at hin1
        have hd1 : decide (l ≤ 98) = true := by simpa using hin1
        have HX := hide hc
        clear hc hin2
        go_wp2_with (go_at_call 121; refine (rhere_any _ _ m false far _ (by exact A.out.2.2.2)).mono ?_; rintro e w' ⟨rfl, n, rfl⟩; rw [unhide HX])
        go_roundg 1
        case measure => have := A.out.1; omega
        case rel =>
          obtain ⟨hg, hF, hmv, hrd⟩ := A.out
          refine ⟨99, nn + 2, m + 1, by omega, by omega, by omega, by omega, by omega, by omega, rfl, rfl, ?_, (hmv.drewN _).set _ _, ?_⟩
          · rw [← hF]; exact (mkF_step hl hin1 (by omega) (unhide HX) 2 (.inr (.inl ⟨rfl, rfl⟩))).symm
          · rw [show ((m : Int) + 1) = ((m + 1 : Nat) : Int) from by omega]
            exact (hrd.drewN _).setAt (m + 1)
      · rw [hc] at hin1
        have hd1 : decide (l ≤ 99) = true := by simpa using hin1
        have HX := hide hc
        clear hc hin2
        go_wp2_with (go_at_call 121; refine (rhere_any _ _ m false far _ (by exact A.out.2.2.2)).mono ?_; rintro e w' ⟨rfl, n, rfl⟩; rw [unhide HX])
        go_roundg 0
        case measure => have := A.out.1; omega
        case rel =>
          obtain ⟨hg, hF, hmv, hrd⟩ := A.out
          refine ⟨100, nn + 4, m + 1, by omega, by omega, by omega, by omega, by omega, by omega, rfl, rfl, ?_, (hmv.drewN _).set _ _, ?_⟩
          · rw [← hF]; exact (mkF_step hl hin1 (by omega) (unhide HX) 4 (.inr (.inr ⟨rfl, rfl⟩))).symm
          · rw [show ((m : Int) + 1) = ((m + 1 : Nat) : Int) from by omega]
            exact (hrd.drewN _).setAt (m + 1)
    · have HF : Hid (nn = (mkSet s k : Int) ∧ m = mk3 s k) := hide (by
        have h := A.out.2.1
        rw [mkF_stop hl hin] at h
        simpa using h)
      generalize hx : hv s m false = c at *
      have HX := hide hx
      clear hx
      by_cases h0 : nn = 0
      · have h0b : (nn == 0) = true := by simpa using h0
        have fin : ∀ w3, Mv b wr w3 → RR b s m true far w3 → ∃ p, marksR s k = .inl p ∧ Mv b w w3 ∧ RR b s p true far w3 := fun w3 a1 a2 => by
          obtain ⟨e1, e2⟩ := unhide HF
          refine ⟨mk3 s k, ?_, A.out.2.2.1.trans a1, by rw [← e2]; exact a2⟩
          unfold marksR
          rw [if_pos (by omega)]
        have FIN := hide fin
        clear fin
        subst h0
        by_cases hin1 : l ≤ c
        · have hd1 : decide (l ≤ c) = true := by simpa using hin1
          have hd2 : decide (c ≤ 99) = false := by simp; omega
          go_wp2_with (go_at_call 121; refine (rhere_any _ _ m false far _ (by exact A.out.2.2.2)).mono ?_; rintro e w' ⟨rfl, n, rfl⟩; rw [unhide HX])
          refine (rblanks_bad b s m far _ ((A.out.2.2.2.drewN _).setBad true)).mono ?_
          rintro e w3 ⟨rfl, hm3, hr3⟩
          have HG := hide (unhide FIN _ ((((Mv.refl b wr).drewN _).set _ _).trans hm3) hr3)
          clear hm3 hr3
          go_wp2
          go_ret
          obtain ⟨p, e1, e2, e3⟩ := unhide HG
          exact Or.inl ⟨p, e1, rfl, e2, e3⟩
        · have hd1 : decide (l ≤ c) = false := by simpa using hin1
          go_wp2_with (go_at_call 121; refine (rhere_any _ _ m false far _ (by exact A.out.2.2.2)).mono ?_; rintro e w' ⟨rfl, n, rfl⟩; rw [unhide HX])
          refine (rblanks_bad b s m far _ ((A.out.2.2.2.drewN _).setBad true)).mono ?_
          rintro e w3 ⟨rfl, hm3, hr3⟩
          have HG := hide (unhide FIN _ ((((Mv.refl b wr).drewN _).set _ _).trans hm3) hr3)
          clear hm3 hr3
          go_wp2
          go_ret
          obtain ⟨p, e1, e2, e3⟩ := unhide HG
          exact Or.inl ⟨p, e1, rfl, e2, e3⟩
      · have h0b : (nn == 0) = false := by simpa using h0
        have fin : ∀ w3, Mv b wr w3 → RR b s (nextP s m) false far w3 → ∃ v q, marksR s k = .inr (v, q) ∧ (v : Int) = nn ∧ Mv b w w3 ∧ RR b s (nextP s q) false far w3 := fun w3 a1 a2 => by
          obtain ⟨e1, e2⟩ := unhide HF
          refine ⟨mkSet s k, mk3 s k, ?_, e1.symm, A.out.2.2.1.trans a1, by rw [← e2]; exact a2⟩
          unfold marksR
          rw [if_neg (by omega)]
        have FIN := hide fin
        clear fin
        by_cases hin1 : l ≤ c
        · have hd1 : decide (l ≤ c) = true := by simpa using hin1
          have hd2 : decide (c ≤ 99) = false := by simp; omega
          go_wp2_with (go_at_call 121; refine (rhere_any _ _ m false far _ (by exact A.out.2.2.2)).mono ?_; rintro e w' ⟨rfl, n, rfl⟩; rw [unhide HX])
          refine (rblanks_ok b s m far _ (A.out.2.2.2.drewN _) hs hm).mono ?_
          rintro e w3 ⟨rfl, hm3, hr3⟩
          have HG := hide (unhide FIN _ (((Mv.refl b wr).drewN _).trans hm3) hr3)
          clear hm3 hr3
          go_wp2
          go_ret
          obtain ⟨v, q, e1, e2, e3, e4⟩ := unhide HG
          exact Or.inr ⟨v, q, e1, by rw [e2]; rfl, e3, e4⟩
        · have hd1 : decide (l ≤ c) = false := by simpa using hin1
          go_wp2_with (go_at_call 121; refine (rhere_any _ _ m false far _ (by exact A.out.2.2.2)).mono ?_; rintro e w' ⟨rfl, n, rfl⟩; rw [unhide HX])
          refine (rblanks_ok b s m far _ (A.out.2.2.2.drewN _) hs hm).mono ?_
          rintro e w3 ⟨rfl, hm3, hr3⟩
          have HG := hide (unhide FIN _ (((Mv.refl b wr).drewN _).trans hm3) hr3)
          clear hm3 hr3
          go_wp2
          go_ret
          obtain ⟨v, q, e1, e2, e3, e4⟩ := unhide HG
          exact Or.inr ⟨v, q, e1, by rw [e2]; rfl, e3, e4⟩

theorem rmarks_yes (b : Nat) (s : ByteArray) (k : Nat) (far : Bool) (w : World) (hr : RR b s k false far w) (hs : s.size ≤ 1000) (hk : k ≤ s.size) {v q : Nat} (h : marksR s k = .inr (v, q)) :
    Calls Tryz.prog 124 #[.pointer (some ⟨b, 0, none⟩)] w fun e w' => e = .returned (.int .i64 (v : Int)) ∧ Mv b w w' ∧ RR b s (nextP s q) false far w' := by
  refine (rmarks_any b s k far w hr hs hk).mono ?_
  rintro e w' (⟨p, h1, _⟩ | ⟨v', q', h1, h2⟩)
  · rw [h] at h1; cases h1
  · rw [h] at h1; cases h1; exact h2
theorem rmarks_no (b : Nat) (s : ByteArray) (k : Nat) (far : Bool) (w : World) (hr : RR b s k false far w) (hs : s.size ≤ 1000) (hk : k ≤ s.size) {p : Nat} (h : marksR s k = .inl p) :
    Calls Tryz.prog 124 #[.pointer (some ⟨b, 0, none⟩)] w fun e w' => e = .returned (.int .i64 0) ∧ Mv b w w' ∧ RR b s p true far w' := by
  refine (rmarks_any b s k far w hr hs hk).mono ?_
  rintro e w' (⟨p, h1, h2⟩ | ⟨v', q', h1, h2⟩)
  · rw [h] at h1; cases h1; exact h2
  · rw [h] at h1; cases h1
end Go.Proofs.YtdgbmcbkbkbdoaaGreatDoor
