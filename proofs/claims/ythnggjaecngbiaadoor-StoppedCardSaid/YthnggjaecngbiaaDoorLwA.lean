import Derived.Test.YthnggjaecngbiaaDoorRdP
namespace Go.Proofs.YthnggjaecngbiaaDoor
open Go.RowKit

/-- Two texts that are alike up to place n, where no letter stands. -/
structure Ag (s t : ByteArray) (n : Nat) : Prop where
  eq : ∀ i, i ≤ n → byteAt t i = byteAt s i
  ls : n < s.size
  lt : n < t.size
  nl : isLow (byteAt s n) = false

def FinAt {α : Type} (n : Nat) : Res α → Prop
  | .inl m => m = n
  | .inr (_, q) => q ≤ n
def GeAt {α : Type} (k : Nat) : Res α → Prop
  | .inl m => k ≤ m
  | .inr (_, q) => k ≤ q
theorem ge_fin {α : Type} {k n : Nat} {r : Res α} (h : GeAt k r) (g : FinAt n r) : k ≤ n := by
  cases r with
  | inl m => simp only [GeAt, FinAt] at h g; omega
  | inr x => obtain ⟨v, q⟩ := x; simp only [GeAt, FinAt] at h g; omega
theorem GeAt.le {α : Type} {k k' : Nat} {r : Res α} (h : GeAt k r) (hk : k' ≤ k) : GeAt k' r := by
  cases r with
  | inl m => simp only [GeAt] at h ⊢; omega
  | inr x => obtain ⟨v, q⟩ := x; simp only [GeAt] at h ⊢; omega

section
variable {s t : ByteArray} {n : Nat}

theorem inR_ag (A : Ag s t n) {i : Nat} (h : i ≤ n) (lo hi : Int) : inR t i lo hi = inR s i lo hi := by
  unfold inR; rw [A.eq i h]
theorem skip_ag (A : Ag s t n) (p : Int → Bool) : ∀ (f f' k : Nat), skipTo p s f k ≤ n → s.size ≤ k + f → t.size ≤ k + f' → skipTo p t f' k = skipTo p s f k
  | 0, f', k, h, h1, h2 => by simp only [skipTo] at h; have := A.ls; omega
  | f + 1, f', k, h, h1, h2 => by
    have hkn : k ≤ n := Nat.le_trans (skipTo_ge p s (f + 1) k) h
    have h3 := A.lt
    obtain ⟨f'', rfl⟩ : ∃ f'', f' = f'' + 1 := ⟨f' - 1, by omega⟩
    simp only [skipTo] at h ⊢
    rw [A.eq k hkn]
    split
    · rename_i hp
      rw [if_pos hp] at h
      exact skip_ag A p f f'' (k + 1) h (by omega) (by omega)
    · rfl
theorem skip_gt (p : Int → Bool) : ∀ (d f k : Nat), (∀ j, j ≤ d → p (byteAt t (k + j)) = true) → d < f → k + d < skipTo p t f k
  | 0, f, k, h, hf => by
    obtain ⟨f', rfl⟩ : ∃ f', f = f' + 1 := ⟨f - 1, by omega⟩
    have h0 := h 0 (by omega)
    simp only [skipTo, Nat.add_zero] at h0 ⊢
    rw [if_pos h0]
    have := skipTo_ge p t f' (k + 1)
    omega
  | d + 1, f, k, h, hf => by
    obtain ⟨f', rfl⟩ : ∃ f', f = f' + 1 := ⟨f - 1, by omega⟩
    have h0 := h 0 (by omega)
    simp only [Nat.add_zero] at h0
    simp only [skipTo]
    rw [if_pos h0]
    have := skip_gt p d f' (k + 1) (fun j hj => by rw [show k + 1 + j = k + (j + 1) by omega]; exact h (j + 1) (by omega)) (by omega)
    omega
theorem next_ag (A : Ag s t n) {k : Nat} (h : nextP s k ≤ n) : nextP t k = nextP s k := by
  have h1 := nextP_ge s k
  have := A.ls
  have := A.lt
  exact skip_ag A isBlank _ _ k h (by omega) (by omega)
theorem low_ag (A : Ag s t n) {k : Nat} (h : lowEnd s k ≤ n) : lowEnd t k = lowEnd s k := by
  have h1 := lowEnd_ge s k
  have := A.ls
  have := A.lt
  exact skip_ag A isLow _ _ k h (by omega) (by omega)
theorem byte_of_at {k : Nat} (hs : k < s.size) (ht : k < t.size) (h : byteAt t k = byteAt s k) : t[k] = s[k] := by
  rw [byteAt_in hs, byteAt_in ht] at h
  exact UInt8.toNat_inj.1 (by omega)
theorem extract_ag (A : Ag s t n) {i j : Nat} (h : j ≤ n) : t.extract i j = s.extract i j := by
  have h1 := A.ls
  have h2 := A.lt
  apply ByteArray.ext_getElem
  · rw [ByteArray.size_extract, ByteArray.size_extract]; omega
  · intro k hk1 hk2
    rw [ByteArray.getElem_extract, ByteArray.getElem_extract]
    rw [ByteArray.size_extract] at hk1
    exact byte_of_at (by omega) (by omega) (A.eq _ (by omega))

theorem nameR_ge (s : ByteArray) (k : Nat) : GeAt k (nameR s k) := by
  have h1 := nextP_ge s k
  have h2 := lowEnd_ge s (nextP s k)
  unfold nameR
  split <;> simp only [GeAt] <;> omega
theorem nameR_ag (A : Ag s t n) {k : Nat} (h : FinAt n (nameR s k)) : nameR t k = nameR s k := by
  have h2 := lowEnd_ge s (nextP s k)
  have key : nextP s k ≤ n ∧ lowEnd s (nextP s k) ≤ n := by
    unfold nameR at h
    split at h
    · simp only [FinAt] at h; omega
    · simp only [FinAt] at h
      rw [h]
      exact ⟨Nat.le_refl _, by rw [show lowEnd s n = n from skipTo_stop A.nl]; exact Nat.le_refl _⟩
  unfold nameR
  rw [next_ag A key.1, low_ag A key.2, extract_ag A key.2]

theorem marksR_ge (s : ByteArray) (k : Nat) : GeAt k (marksR s k) := by
  have h1 : k ≤ mk1 s k := by unfold mk1 adv; split <;> omega
  have h2 : mk1 s k ≤ mk2 s k := by unfold mk2 adv; split <;> omega
  have h3 : mk2 s k ≤ mk3 s k := by unfold mk3 adv; split <;> omega
  unfold marksR
  split <;> simp only [GeAt] <;> omega
theorem marksR_ag (A : Ag s t n) {k : Nat} (h : FinAt n (marksR s k)) : marksR t k = marksR s k := by
  have h1 : k ≤ mk1 s k := by unfold mk1 adv; split <;> omega
  have h2 : mk1 s k ≤ mk2 s k := by unfold mk2 adv; split <;> omega
  have h3 : mk2 s k ≤ mk3 s k := by unfold mk3 adv; split <;> omega
  have h4 : mk3 s k ≤ n := by unfold marksR at h; split at h <;> simp only [FinAt] at h <;> omega
  have e1 : mk1 t k = mk1 s k := by unfold mk1; rw [inR_ag A (by omega)]
  have e2 : mk2 t k = mk2 s k := by unfold mk2; rw [e1, inR_ag A (by omega)]
  have e3 : mk3 t k = mk3 s k := by unfold mk3; rw [e2, inR_ag A (by omega)]
  have e4 : mkSet t k = mkSet s k := by unfold mkSet; rw [e1, e2, inR_ag A (by omega), inR_ag A (by omega), inR_ag A (by omega)]
  unfold marksR
  rw [e3, e4]

theorem digV_ag (A : Ag s t n) (k : Nat) : ∀ m, k + m ≤ n + 1 → digV t k m = digV s k m
  | 0, _ => rfl
  | m + 1, h => by simp only [digV]; rw [digV_ag A k m (by omega), A.eq (k + m) (by omega)]
theorem digitsR_ge (s : ByteArray) (k : Nat) : GeAt k (digitsR s k) := by
  have h1 := digEnd_ge s k
  unfold digitsR
  split
  · simp only [GeAt]; omega
  split
  · simp only [GeAt]; omega
  · simp only [GeAt]; omega
theorem digitsR_ag (A : Ag s t n) {k : Nat} (h : FinAt n (digitsR s k)) : digitsR t k = digitsR s k := by
  have h1 := digEnd_ge s k
  have hs := A.ls
  have ht := A.lt
  by_cases h7 : 7 < digEnd s k - k
  · have e1 : digitsR s k = .inl (k + 7) := by unfold digitsR; rw [if_pos h7]
    rw [e1] at h ⊢
    simp only [FinAt] at h
    have hd : ∀ j, j ≤ 7 → isDig (byteAt t (k + j)) = true := fun j hj => by
      rw [A.eq _ (by omega)]
      exact digEnd_all s (s.size - k) k j (by unfold digEnd at h7; omega)
    have h8 := skip_gt isDig 7 (t.size - k) k hd (by omega)
    unfold digitsR
    rw [if_pos (by unfold digEnd; omega)]
  · have h2 : digEnd s k ≤ n := by
      unfold digitsR at h
      rw [if_neg h7] at h
      split at h <;> simp only [FinAt] at h <;> omega
    have e1 : digEnd t k = digEnd s k := skip_ag A isDig _ _ k h2 (by omega) (by omega)
    unfold digitsR
    rw [e1, digV_ag A k _ (by omega)]

theorem numberR_ge (s : ByteArray) (k : Nat) : GeAt k (numberR s k) := by
  have h1 := nextP_ge s k
  have h2 : nextP s k ≤ numAt s k := by unfold numAt adv; split <;> omega
  have h3 := digitsR_ge s (numAt s k)
  unfold numberR
  split
  · rename_i p hd; rw [hd] at h3; simp only [GeAt] at h3 ⊢; omega
  · rename_i v q hd; rw [hd] at h3; simp only [GeAt] at h3 ⊢; omega
theorem numberR_ag (A : Ag s t n) {k : Nat} (h : FinAt n (numberR s k)) : numberR t k = numberR s k := by
  have h2 : nextP s k ≤ numAt s k := by unfold numAt adv; split <;> omega
  have h3 := digitsR_ge s (numAt s k)
  have hf : FinAt n (digitsR s (numAt s k)) := by
    unfold numberR at h
    split at h
    · rename_i p hd; rw [hd]; exact h
    · rename_i v q hd; rw [hd]; exact h
  have h4 := ge_fin h3 hf
  have e1 := next_ag A (k := k) (by omega)
  have e2 : numAt t k = numAt s k := by unfold numAt; rw [e1, inR_ag A (by omega)]
  unfold numberR
  rw [e1, e2, digitsR_ag A hf, inR_ag A (by omega)]

theorem policyR_ge (s : ByteArray) (k : Nat) : GeAt k (policyR s k) := by
  have h1 := nextP_ge s k
  unfold policyR
  split <;> simp only [GeAt] <;> omega
theorem policyR_ag (A : Ag s t n) {k : Nat} (h : FinAt n (policyR s k)) : policyR t k = policyR s k := by
  have h1 : nextP s k ≤ n := by unfold policyR at h; split at h <;> simp only [FinAt] at h <;> omega
  unfold policyR
  rw [next_ag A h1, A.eq _ h1]

theorem wordTestR_ge (s : ByteArray) (k : Nat) : GeAt k (wordTestR s k) := by
  have h1 := nextP_ge s k
  have h2 := lowEnd_ge s (nextP s k)
  unfold wordTestR
  split
  · simp only [GeAt]; omega
  split <;> simp only [GeAt] <;> omega
theorem wordTestR_ag (A : Ag s t n) {k : Nat} (h : FinAt n (wordTestR s k)) : wordTestR t k = wordTestR s k := by
  have h2 := lowEnd_ge s (nextP s k)
  have key : nextP s k ≤ n ∧ lowEnd s (nextP s k) ≤ n := by
    unfold wordTestR at h
    split at h
    · simp only [FinAt] at h; omega
    split at h
    · simp only [FinAt] at h; omega
    · simp only [FinAt] at h
      rw [h]
      exact ⟨Nat.le_refl _, by rw [show lowEnd s n = n from skipTo_stop A.nl]; exact Nat.le_refl _⟩
  unfold wordTestR
  rw [next_ag A key.1, low_ag A key.2, extract_ag A key.2]

theorem numberTestR_ge (s : ByteArray) (k : Nat) : GeAt k (numberTestR s k) := by
  have h1 := numberR_ge s k
  unfold numberTestR
  split
  · rename_i p hn; rw [hn] at h1; exact h1
  · rename_i lo q hn
    rw [hn] at h1
    simp only [GeAt] at h1
    have h2 := nextP_ge s q
    split
    · split
      · have h3 := numberR_ge s (nextP s q + 1 + 1)
        split
        · rename_i p hn2; rw [hn2] at h3; simp only [GeAt] at h3 ⊢; omega
        · rename_i hi r hn2; rw [hn2] at h3; simp only [GeAt] at h3 ⊢; omega
      · simp only [GeAt]; omega
    · simp only [GeAt]; omega
theorem numberTestR_ag (A : Ag s t n) {k : Nat} (h : FinAt n (numberTestR s k)) : numberTestR t k = numberTestR s k := by
  cases hn : numberR s k with
  | inl p =>
    have e0 : numberTestR s k = .inl p := by unfold numberTestR; rw [hn]
    rw [e0] at h
    have e1 := numberR_ag A (k := k) (by rw [hn]; exact h)
    unfold numberTestR
    rw [e1, hn]
  | inr x =>
    obtain ⟨lo, q⟩ := x
    have h2 := nextP_ge s q
    have hq : nextP s q ≤ n := by
      unfold numberTestR at h
      rw [hn] at h
      simp only at h
      split at h
      · split at h
        · have h3 := numberR_ge s (nextP s q + 1 + 1)
          have h4 : FinAt n (numberR s (nextP s q + 1 + 1)) := by
            split at h
            · rename_i p hn2; rw [hn2]; exact h
            · rename_i hi r hn2; rw [hn2]; exact h
          have := ge_fin h3 h4; omega
        · simp only [FinAt] at h; omega
      · simp only [FinAt] at h; omega
    have e1 := numberR_ag A (k := k) (by rw [hn]; simp only [FinAt]; omega)
    have e2 := next_ag A hq
    unfold numberTestR at h ⊢
    rw [e1]
    rw [hn] at h ⊢
    simp only at h ⊢
    rw [e2, inR_ag A hq]
    split
    · rename_i ha
      rw [if_pos ha] at h
      have h5 : nextP s q + 1 ≤ n := by
        split at h
        · have h3 := numberR_ge s (nextP s q + 1 + 1)
          have h4 : FinAt n (numberR s (nextP s q + 1 + 1)) := by
            split at h
            · rename_i p hn2; rw [hn2]; exact h
            · rename_i hi r hn2; rw [hn2]; exact h
          have := ge_fin h3 h4; omega
        · simp only [FinAt] at h; omega
      rw [inR_ag A h5]
      split
      · rename_i hb
        rw [if_pos hb] at h
        have h4 : FinAt n (numberR s (nextP s q + 1 + 1)) := by
          split at h
          · rename_i p hn2; rw [hn2]; exact h
          · rename_i hi r hn2; rw [hn2]; exact h
        rw [numberR_ag A h4]
      · rfl
    · rfl

theorem withNum_ge {c : Int} (s : ByteArray) (k : Nat) : GeAt k (withNum c (numberR s k)) := by
  have h1 := numberR_ge s k
  cases hn : numberR s k with
  | inl p => rw [hn] at h1; exact h1
  | inr x => obtain ⟨v, q⟩ := x; rw [hn] at h1; exact h1
theorem withNum_ag {c : Int} (A : Ag s t n) {k : Nat} (h : FinAt n (withNum c (numberR s k))) : withNum c (numberR t k) = withNum c (numberR s k) := by
  rw [numberR_ag A (k := k) (by
    cases hn : numberR s k with
    | inl p => rw [hn] at h; exact h
    | inr x => obtain ⟨v, q⟩ := x; rw [hn] at h; exact h)]

theorem bareTestR_ge (s : ByteArray) (k : Nat) : GeAt (nextP s k) (bareTestR s k) := by
  unfold bareTestR
  split
  · simp only [GeAt]; omega
  split
  · exact (withNum_ge s _).le (by omega)
  split
  · exact (withNum_ge s _).le (by omega)
  split
  · exact wordTestR_ge s _
  · exact numberTestR_ge s _
theorem bareTestR_ag (A : Ag s t n) {k : Nat} (h : FinAt n (bareTestR s k)) : bareTestR t k = bareTestR s k := by
  have h1 := ge_fin (bareTestR_ge s k) h
  unfold bareTestR at h ⊢
  rw [next_ag A h1, inR_ag A h1, inR_ag A h1, inR_ag A h1, inR_ag A h1]
  split
  · rfl
  rename_i a1
  rw [if_neg a1] at h
  split
  · rename_i a2
    rw [if_pos a2] at h
    exact withNum_ag A h
  rename_i a2
  rw [if_neg a2] at h
  split
  · rename_i a3
    rw [if_pos a3] at h
    exact withNum_ag A h
  rename_i a3
  rw [if_neg a3] at h
  split
  · rename_i a4
    rw [if_pos a4] at h
    exact wordTestR_ag A h
  · rename_i a4
    rw [if_neg a4] at h
    exact numberTestR_ag A h
end

end Go.Proofs.YthnggjaecngbiaaDoor
