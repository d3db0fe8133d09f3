import Derived.Test.YthnggjaecngbiaaDoorLwB
import Derived.Test.YthnggjaecngbiaaDoorFaB
import Derived.KernelRfl
namespace Go.Proofs.YthnggjaecngbiaaDoor
open Go.RowKit

def exText : List UInt8 := [105, 110, 32, 97, 103, 101, 59, 32, 105, 110, 32, 105, 108, 108, 47, 97, 59, 32, 116, 97, 98, 108, 101, 32, 114, 105, 115, 107, 32, 85, 32, 40, 97, 103, 101, 44, 32, 105, 108, 108, 41, 32, 123, 32, 60, 49, 56, 44, 32, 95, 32, 61, 32, 49, 59, 32, 62, 49, 55, 44, 32, 48, 32, 61, 32, 50, 59, 32, 62, 49, 55, 44, 32, 33, 48, 32, 61, 32, 53, 59, 32, 125, 32, 116, 97, 98, 108, 101, 32, 102, 101, 101, 32, 70, 32, 40, 114, 105, 115, 107, 41, 32, 92, 97, 32, 123, 32, 62, 50, 32, 61, 32, 49, 48, 48, 59, 32, 110, 111, 110, 101, 32, 61, 32, 48, 59, 32, 95, 32, 61, 32, 53, 48, 59, 32, 125]
def exPlain : List UInt8 := [105, 110, 32, 97, 103, 101, 59, 10, 105, 110, 32, 105, 108, 108, 47, 97, 59, 10, 116, 97, 98, 108, 101, 32, 114, 105, 115, 107, 32, 85, 40, 97, 103, 101, 44, 105, 108, 108, 41, 123, 60, 49, 56, 44, 95, 61, 49, 59, 62, 49, 55, 44, 48, 61, 50, 59, 62, 49, 55, 44, 33, 48, 61, 53, 59, 125, 10, 116, 97, 98, 108, 101, 32, 102, 101, 101, 32, 70, 40, 114, 105, 115, 107, 41, 92, 97, 123, 62, 50, 61, 49, 48, 48, 59, 110, 111, 110, 101, 61, 48, 59, 95, 61, 53, 48, 59, 125, 10]

theorem ex_plan : plainR ⟨exText.toArray⟩ = (exPlain, 4, 0) := by kernel_rfl
theorem no_plan : ∃ l, plainR ⟨#[105, 110, 32, 116, 97, 98, 108, 101, 59]⟩ = (l, 3, 1) := ⟨[], by kernel_rfl⟩

theorem checkL_two (rest : List PItem) : ∀ ahead, (checkL ahead rest).2 ≠ 1 := by
  induction rest with
  | nil => intro ahead; simp [checkL]
  | cons it rest ih =>
    intro ahead
    simp only [checkL]
    split
    · exact ih _
    · unfold checkItemP
      repeat' split
      all_goals simp
theorem checkR_two (its : List PItem) : (checkR its).2 ≠ 1 := by
  unfold checkR
  split
  · simp
  · exact checkL_two _ _
theorem plainR_text {s : ByteArray} (h : (plainR s).2.2 = 1) : s.size ≤ 1000 ∧ planR s = .inl (plainR s).2.1 := by
  unfold plainR at h ⊢
  split at h
  · simp at h
  · rename_i h1
    refine ⟨by omega, ?_⟩
    rw [if_neg h1]
    cases hp : planR s with
    | inl p => rfl
    | inr its =>
      rw [hp] at h
      simp only at h
      split at h
      · simp at h
      · exact absurd h (checkR_two its)
theorem plainR_of_text {s : ByteArray} {n : Nat} (hs : s.size ≤ 1000) (h : planR s = .inl n) : plainR s = ([], n, 1) := by
  unfold plainR
  rw [if_neg (by omega), h]

theorem byteAt_extract {s : ByteArray} {n i : Nat} (hn : n < s.size) (hi : i ≤ n) : byteAt (s.extract 0 (n + 1)) i = byteAt s i := by
  have h1 : i < (s.extract 0 (n + 1)).size := by rw [ByteArray.size_extract]; omega
  rw [byteAt_in h1, byteAt_in (by omega)]
  simp [ByteArray.getElem_extract]
theorem byteAt_append {a b : ByteArray} {i : Nat} (h : i < a.size) : byteAt (a ++ b) i = byteAt a i := by
  rw [byteAt_in h, byteAt_in (by rw [ByteArray.size_append]; omega), ByteArray.getElem_append_left h]
theorem ag_extract {s : ByteArray} {n : Nat} (hn : n < s.size) (hl : isLow (byteAt s n) = false) : Ag s (s.extract 0 (n + 1)) n :=
  ⟨fun i hi => byteAt_extract hn hi, hn, by rw [ByteArray.size_extract]; omega, hl⟩
theorem ag_append {s more : ByteArray} {n : Nat} (hn : n < s.size) (hl : isLow (byteAt s n) = false) : Ag s (s.extract 0 (n + 1) ++ more) n :=
  ⟨fun i hi => by rw [byteAt_append (by rw [ByteArray.size_extract]; omega)]; exact byteAt_extract hn hi, hn, by rw [ByteArray.size_append, ByteArray.size_extract]; omega, hl⟩

set_option maxRecDepth 100000 in
set_option maxHeartbeats 1600000 in
theorem example_any (w : World) :
    Calls Tryd.prog 7 #[] w fun e w' => e = .returned (.string ⟨exText.toArray⟩) ∧ w' = w := by
  go_enter Tryd.func7, Tryd.ntmps7
  go_wp2
  go_ret
  exact ⟨rfl, rfl⟩

set_option maxRecDepth 100000 in
set_option maxHeartbeats 1600000 in
theorem plainly_any (w : World) (ht : Tab w) :
    Calls Tryd.prog 4 #[] w fun e w' => e = .returned (.bool true) ∧ Below w.heap.size w w' := by
  have HT := hide ht
  clear ht
  go_enter Tryd.func4, Tryd.ntmps4
  go_wp2_with (go_at_call 7; refine (example_any _).mono ?_; rintro e _ ⟨rfl, rfl⟩)
  refine (plain_any _ _ (by decide) (unhide HT)).mono ?_
  rintro e w1 ⟨rfl, hb1⟩
  rw [ex_plan]
  have HB1 := hide hb1
  have HT1 := hide (tab_below hb1 (unhide HT))
  clear hb1
  simp only
  go_wp2_with fail
  obtain ⟨l0, hl0⟩ := no_plan
  refine (plain_any ⟨#[105, 110, 32, 116, 97, 98, 108, 101, 59]⟩ _ (by decide) (unhide HT1)).mono ?_
  rintro e w2 ⟨rfl, hb2⟩
  rw [hl0]
  have HB2 := hide (below_after (unhide HB1) hb2)
  clear hb2 hl0 HT1 HB1
  simp only
  go_wp2_with fail
  all_goals first
    | (exfalso; rename_i h; exact h rfl; done)
    | (go_ret; exact ⟨rfl, unhide HB2⟩)

set_option maxHeartbeats 400000 in
theorem letter_any (c : Int) (w : World) :
    Calls Tryd.prog 6 #[.int .u8 c] w fun e w' => e = .returned (.bool (isLow c)) ∧ w' = w := by
  by_cases h1 : 97 ≤ c
  · have h2 : decide (97 ≤ c) = true := by simpa using h1
    go_enter Tryd.func6, Tryd.ntmps6
    go_wp2
    go_ret
    refine ⟨ret_bool ?_, rfl⟩
    simp [isLow, h1]
  · have h2 : decide (97 ≤ c) = false := by simpa using h1
    go_enter Tryd.func6, Tryd.ntmps6
    go_wp2
    go_ret
    refine ⟨ret_bool ?_, rfl⟩
    have h3 : ¬ 97 ≤ c := by omega
    simp [isLow, h3]

set_option maxRecDepth 100000 in
set_option maxHeartbeats 1600000 in
theorem stopped_any (s more : ByteArray) (w : World) (hs : s.size ≤ maxLen) (hm : more.size ≤ 140737488351232) (ht : Tab w) :
    Calls Tryd.prog 3 #[.string s, .string more] w fun e w' => e = .returned (.bool true) ∧ Below w.heap.size w w' := by
  have HT := hide ht
  have HS := hide hs
  have hs' : s.size ≤ 2 ^ 63 - 1 := hs
  clear ht hs
  obtain ⟨l0, n, e0, hp⟩ : ∃ l0 n e0, plainR s = (l0, n, e0) := ⟨_, _, _, rfl⟩
  have HP := hide hp
  clear hp
  go_enter Tryd.func3, Tryd.ntmps3
  go_wp2_with (first | (go_at_call 4; refine (plainly_any _ (by exact unhide HT)).mono ?_; rintro e w1 ⟨rfl, hb1⟩; have HB1 := hide hb1; have HT1 := hide (tab_below hb1 (unhide HT)); clear hb1))
  refine (plain_any s _ (unhide HS) (unhide HT1)).mono ?_
  rintro e w2 ⟨rfl, hb2⟩
  rw [unhide HP]
  simp only
  have HB2 := hide (below_after (unhide HB1) hb2)
  have HT2 := hide (tab_below hb2 (unhide HT1))
  clear hb2 HB1 HT1
  by_cases h1 : e0 = 1
  case neg =>
    have h1b : (e0 != 1) = true := by rw [bne_iff_ne]; exact h1
    clear h1
    go_wp2_with fail
    go_ret
    exact ⟨rfl, unhide HB2⟩
  subst h1
  have hpl := plainR_text (s := s) (by rw [unhide HP])
  rw [unhide HP] at hpl
  obtain ⟨hsz, hpl⟩ := hpl
  have HPL : Hid (planR s = .inl n) := hide hpl
  clear hpl
  by_cases h2 : n < s.size
  case neg =>
    have h2b : decide ((s.size : Int) ≤ (n : Int)) = true := by simp; omega
    have h2c : decide (s.size ≤ n) = true := by simp; omega
    clear h2
    go_wp2_with fail
    go_ret
    exact ⟨rfl, unhide HB2⟩
  have h2b : decide (s.size ≤ n) = false := by simp; omega
  have h2c : decide ((s.size : Int) ≤ (n : Int)) = false := by simp; omega
  have hn0 : (0 : Int) ≤ (n : Int) := Int.natCast_nonneg _
  have hneg : decide ((n : Int) < 0) = false := by simp
  have hn1 : (n : Int) < (s.size : Int) := by omega
  cases hlow : isLow (byteAt s n) with
  | true =>
    have HL : Hid (isLow (s[n].toNat : Int) = true) := hide (by rw [← byteAt_in h2]; exact hlow)
    clear hlow
    go_wp2_with (go_at_call 6; refine (letter_any _ _).mono ?_; rintro e _ ⟨rfl, rfl⟩; rw [unhide HL])
    go_ret
    exact ⟨rfl, unhide HB2⟩
  | false =>
    have HL : Hid (isLow (s[n].toNat : Int) = false) := hide (by rw [← byteAt_in h2]; exact hlow)
    have hx1 : (s.extract 0 (n + 1)).size = n + 1 := by rw [ByteArray.size_extract]; omega
    have hpl1 : plainR (s.extract 0 (n + 1)) = ([], n, 1) := plainR_of_text (by omega) (planR_ag (ag_extract h2 hlow) (unhide HPL))
    have HP1 := hide hpl1
    have HP2 : Hid (n + 1 + more.size ≤ 1000 → plainR (s.extract 0 (n + 1) ++ more) = ([], n, 1)) := hide (fun hle => plainR_of_text (by rw [ByteArray.size_append]; omega) (planR_ag (ag_append h2 hlow) (unhide HPL)))
    clear hlow hpl1
    go_wp2_with (go_at_call 6; refine (letter_any _ _).mono ?_; rintro e w2' ⟨rfl, hw2⟩; rw [unhide HL]; subst hw2)
    refine (plain_any _ _ (by rw [hx1]; show n + 1 ≤ 2 ^ 63 - 1; omega) (unhide HT2)).mono ?_
    rintro e w3 ⟨rfl, hb3⟩
    rw [unhide HP1]
    simp only
    have HB3 := hide (below_after (unhide HB2) hb3)
    have HT3 := hide (tab_below hb3 (unhide HT2))
    clear hb3 HB2 HT2 HP1
    by_cases h3 : n + 1 + more.size ≤ 1000
    case neg =>
      have h3b : (1000 : Int) < (n : Int) + 1 + more.size := by omega
      go_wp2_with fail
      go_ret
      exact ⟨rfl, unhide HB3⟩
    have h3b : ¬ (1000 : Int) < (n : Int) + 1 + more.size := by omega
    have hp2 := HP2.out h3
    have HQ := hide hp2
    clear HP2 hp2
    go_wp2_with fail
    refine (plain_any _ _ (by rw [ByteArray.size_append, hx1]; show n + 1 + more.size ≤ 2 ^ 63 - 1; omega) (unhide HT3)).mono ?_
    rintro e w4 ⟨rfl, hb4⟩
    rw [unhide HQ]
    simp only
    have HB4 := hide (below_after (unhide HB3) hb4)
    clear hb4 HB3 HT3
    go_wp2_with fail
    go_ret
    exact ⟨rfl, unhide HB4⟩

end Go.Proofs.YthnggjaecngbiaaDoor
