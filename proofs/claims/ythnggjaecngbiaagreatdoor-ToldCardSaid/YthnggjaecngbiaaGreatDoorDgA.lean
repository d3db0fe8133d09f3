import Derived.Test.YthnggjaecngbiaaGreatDoorKpE
import Derived.Laws.BytesArg
namespace Go.Proofs.YthnggjaecngbiaaGreatDoor
open Go.RowKit

theorem kconv_one (c : Int) (w : World) (n : Nat) (hn : n = w.heap.size) : (convert 59 9 (.slice (some ⟨n, 0, none⟩) 1 1)).run Tryz.prog (w.alloc (.cells #[.int .u8 c] 5)) = .ok (.string ⟨#[u8 c]⟩) (w.alloc (.cells #[.int .u8 c] 5)) := by
  subst hn
  have h := run_convert_bytes_arg (P := Tryz.prog) (w.alloc (.cells #[.int .u8 c] 5)) 59 5 Tryz.underlying59 Tryz.underlying5 w.heap.size 0 1 1 [c] rfl (fun i hi => by
    obtain rfl : i = 0 := by omega
    have := alloc_last w (.cells #[.int .u8 c] 5)
    unfold World.cell?
    rw [this]
    rfl) 9 Tryz.underlying9
  exact h
theorem kdd_small {u : Nat} (h : u < 10) : Lib.decDigits u = [u8 (48 + (u : Int) % 10)] := by
  rw [Lib.decDigits, dif_pos h]
  unfold u8
  congr 2 <;> omega
theorem kdd_big {u : Nat} (h : ¬ u < 10) : Lib.decDigits u = Lib.decDigits (u / 10) ++ [u8 (48 + (u : Int) % 10)] := by
  rw [Lib.decDigits, dif_neg h]
  unfold u8
  congr 3 <;> omega

set_option maxRecDepth 100000 in
set_option maxHeartbeats 1600000 in
theorem kdig_nat : ∀ (k u : Nat) (w : World), u < k → u ≤ 9999999 →
    Calls Tryz.prog 26 #[.int .i64 (u : Int)] w fun e w' => e = .returned (.string ⟨(Lib.decDigits u).toArray⟩) ∧ Below w.heap.size w w' := by
  intro k
  induction k with
  | zero =>
    intro u w h _
    omega
  | succ k ih =>
    intro u w h hu
    have h0 : ¬ (u : Int) < 0 := by omega
    have hcv := kconv_one (48 + (u : Int) % 10) w _ rfl
    by_cases h1 : u < 10
    · have h1b : (u : Int) < 10 := by omega
      go_enter Tryz.func26, Tryz.ntmps26
      go_wp2_with fail
      go_ret
      exact ⟨by rw [kdd_small h1]; rfl, (Below.refl _ w).alloc (Nat.le_refl _) _⟩
    · have h1b : ¬ (u : Int) < 10 := by omega
      have hdl := dd_len 6 (u / 10) (by have : (10 : Nat) ^ (6 + 1) = 10000000 := by decide
                                        omega)
      go_enter Tryz.func26, Tryz.ntmps26
      go_wp2_with fail
      rw [show (u : Int) / 10 = ((u / 10 : Nat) : Int) by omega]
      refine (ih (u / 10) _ (by omega) (by omega)).mono ?_
      rintro e w1 ⟨rfl, hb⟩
      obtain ⟨d1, hd1⟩ : ∃ d : ByteArray, (⟨(Lib.decDigits (u / 10)).toArray⟩ : ByteArray) = d := ⟨_, rfl⟩
      have hs1 : d1.size ≤ 8 := by rw [← hd1]; show (Lib.decDigits (u / 10)).toArray.size ≤ 8; rw [List.size_toArray]; omega
      rw [hd1]
      have HD1 : Hid (d1.data.toList = Lib.decDigits (u / 10)) := hide (by rw [← hd1])
      have HB := hide (below_after ((Below.refl _ w).alloc (Nat.le_refl _) _) hb)
      clear hb hd1 hcv
      go_wp2_with fail
      go_ret
      refine ⟨ret_str ?_, unhide HB⟩
      rw [kdd_big h1]
      simp [unhide HD1]

set_option maxRecDepth 100000 in
set_option maxHeartbeats 1600000 in
theorem kdigits_any (n : Int) (w : World) (h : -9999999 ≤ n) (h' : n ≤ 9999999) :
    Calls Tryz.prog 26 #[.int .i64 n] w fun e w' => e = .returned (.string ⟨(Lib.itoa n).toArray⟩) ∧ Below w.heap.size w w' := by
  by_cases hn : n < 0
  · have en : -n = ((n.natAbs : Nat) : Int) := by omega
    have hdl := dd_len 6 n.natAbs (by have : (10 : Nat) ^ (6 + 1) = 10000000 := by decide
                                      omega)
    go_enter Tryz.func26, Tryz.ntmps26
    go_wp2_with fail
    refine (kdig_nat (n.natAbs + 1) n.natAbs _ (by omega) (by omega)).mono ?_
    rintro e w1 ⟨rfl, hb⟩
    obtain ⟨d1, hd1⟩ : ∃ d : ByteArray, (⟨(Lib.decDigits n.natAbs).toArray⟩ : ByteArray) = d := ⟨_, rfl⟩
    have hs1 : d1.size ≤ 8 := by rw [← hd1]; show (Lib.decDigits n.natAbs).toArray.size ≤ 8; rw [List.size_toArray]; omega
    rw [hd1]
    have HD1 : Hid (d1.data.toList = Lib.decDigits n.natAbs) := hide (by rw [← hd1])
    have HB := hide hb
    clear hb hd1
    go_wp2_with fail
    go_ret
    refine ⟨ret_str ?_, unhide HB⟩
    unfold Lib.itoa
    rw [if_pos hn]
    simp [unhide HD1]
  · obtain ⟨u, rfl⟩ : ∃ u : Nat, n = (u : Int) := ⟨n.toNat, by omega⟩
    have e : Lib.itoa (u : Int) = Lib.decDigits u := by unfold Lib.itoa; rw [if_neg hn]; rfl
    rw [e]
    exact kdig_nat (u + 1) u w (by omega) (by omega)

set_option maxRecDepth 100000 in
set_option maxHeartbeats 800000 in
theorem kshown_any (p : PVal) (w : World) (h : -9999999 ≤ p.n) (h' : p.n ≤ 9999999) :
    Calls Tryz.prog 22 #[.agg #[.int .i64 p.kind, .int .i64 p.n]] w fun e w' => e = .returned (.string ⟨(shownOut p).toArray⟩) ∧ Below w.heap.size w w' := by
  obtain ⟨k, n⟩ := p
  simp only at h h' ⊢
  have HB0 : Hid (Below w.heap.size w (w.alloc (.cells #[.int .i64 k, .int .i64 n] 51))) := hide ((Below.refl _ w).alloc (Nat.le_refl _) _)
  by_cases h1 : k = 1
  · subst h1
    go_enter Tryz.func22, Tryz.ntmps22
    go_wp2
    go_ret
    exact ⟨by simp [shownOut], unhide HB0⟩
  have g1 : (k == 1) = false := by simpa using h1
  by_cases h2 : k = 2
  · subst h2
    clear h1 g1
    go_enter Tryz.func22, Tryz.ntmps22
    go_wp2
    go_ret
    exact ⟨by simp [shownOut], unhide HB0⟩
  have g2 : (k == 2) = false := by simpa using h2
  have HS : Hid (shownOut ⟨k, n⟩ = Lib.itoa n) := hide (by simp [shownOut, h1, h2])
  clear h1 h2
  go_enter Tryz.func22, Tryz.ntmps22
  go_wp2_with fail
  refine (kdigits_any _ _ h h').mono ?_
  rintro e wc ⟨rfl, hbc⟩
  have HB1 := hide (below_after (unhide HB0) hbc)
  clear hbc
  go_wp2
  go_ret
  refine ⟨?_, unhide HB1⟩
  rw [unhide HS]
  rfl

/-- A text that begins with another one, and then ends or goes on with a blank. -/
def beginsP (s t : ByteArray) : Bool := decide (t.size ≤ s.size) && ((s.extract 0 t.size).toList == t.toList) && (decide (s.size = t.size) || decide (byteAt s t.size = 32))
set_option maxRecDepth 100000 in
set_option maxHeartbeats 800000 in
theorem begins_any (s t : ByteArray) (w : World) (_hs : s.size ≤ 100000000) (_ht : t.size ≤ 100000000) :
    Calls Tryz.prog 23 #[.string s, .string t] w fun e w' => e = .returned (.bool (beginsP s t)) ∧ Below w.heap.size w w' := by
  by_cases h1 : t.size ≤ s.size
  · have h1c : (t.size : Int) ≤ (s.size : Int) := by omega
    cases h2 : (s.extract 0 t.size).toList == t.toList with
    | true =>
      by_cases h3 : s.size = t.size
      · have h3b : ((s.size : Int) == (t.size : Int)) = true := by simp; omega
        have HF : Hid (beginsP s t = true) := hide (by unfold beginsP; rw [h2]; simp [h3])
        go_enter Tryz.func23, Tryz.ntmps23
        go_wp2_with fail
        go_ret
        exact ⟨ret_bool (unhide HF).symm, Below.refl _ _⟩
      · have h3b : ((s.size : Int) == (t.size : Int)) = false := by simp; omega
        have h4 : t.size < s.size := by omega
        have h4c : (t.size : Int) < (s.size : Int) := by omega
        have hba := byteAt_in h4
        have HF : Hid (beginsP s t = ((s[t.size].toNat : Int) == 32)) := hide (by
          unfold beginsP
          rw [h2, hba, Bool.eq_iff_iff]
          simp [h1, h3])
        clear h3 hba
        go_enter Tryz.func23, Tryz.ntmps23
        go_wp2_with fail
        go_ret
        exact ⟨ret_bool (unhide HF).symm, Below.refl _ _⟩
    | false =>
      have HF : Hid (beginsP s t = false) := hide (by unfold beginsP; rw [h2]; simp)
      go_enter Tryz.func23, Tryz.ntmps23
      go_wp2_with fail
      go_ret
      exact ⟨ret_bool (unhide HF).symm, Below.refl _ _⟩
  · have h1c : ¬ (t.size : Int) ≤ (s.size : Int) := by omega
    have HF : Hid (beginsP s t = false) := hide (by unfold beginsP; simp [h1])
    clear h1
    go_enter Tryz.func23, Tryz.ntmps23
    go_wp2_with fail
    go_ret
    exact ⟨ret_bool (unhide HF).symm, Below.refl _ _⟩
end Go.Proofs.YthnggjaecngbiaaGreatDoor
