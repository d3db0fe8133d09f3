import Derived.Test.YthnggjaecngbiaaDoorLwA
namespace Go.Proofs.YthnggjaecngbiaaDoor
open Go.RowKit

section
variable {s t : ByteArray} {n : Nat}

theorem bangs_ge (s : ByteArray) : ∀ (f k j : Nat), k ≤ (bangs s f k j).2
  | 0, k, j => nextP_ge s k
  | f + 1, k, j => by
    have h1 := nextP_ge s k
    simp only [bangs]
    split
    · have := bangs_ge s f (nextP s k + 1) (j + 1); omega
    · exact h1
theorem bangs_ag (A : Ag s t n) : ∀ (f f' k j : Nat), (bangs s f k j).2 ≤ n → s.size ≤ k + f → t.size ≤ k + f' → bangs t f' k j = bangs s f k j
  | 0, f', k, j, h, h1, h2 => by
    have := nextP_ge s k
    have := A.ls
    simp only [bangs] at h
    omega
  | f + 1, f', k, j, h, h1, h2 => by
    have hge := bangs_ge s (f + 1) k j
    have h3 := A.lt
    have h4 := nextP_ge s k
    obtain ⟨f'', rfl⟩ : ∃ f'', f' = f'' + 1 := ⟨f' - 1, by omega⟩
    simp only [bangs] at h ⊢
    have hn : nextP s k ≤ n := by
      split at h
      · have := bangs_ge s f (nextP s k + 1) (j + 1); omega
      · exact h
    rw [next_ag A hn, inR_ag A hn]
    split
    · rename_i a1
      rw [if_pos a1] at h
      exact bangs_ag A f f'' (nextP s k + 1) (j + 1) h (by omega) (by omega)
    · rfl
theorem testR_ge (s : ByteArray) (k : Nat) : GeAt k (testR s k) := by
  have h1 := bangs_ge s (s.size - k) k 0
  have h2 := bareTestR_ge s (bangs s (s.size - k) k 0).2
  have h3 := nextP_ge s (bangs s (s.size - k) k 0).2
  unfold testR
  split
  · rename_i p hb; rw [hb] at h2; simp only [GeAt] at h2 ⊢; omega
  · rename_i t q hb; rw [hb] at h2; simp only [GeAt] at h2 ⊢; omega
theorem testR_ag (A : Ag s t n) {k : Nat} (h : FinAt n (testR s k)) : testR t k = testR s k := by
  have hk := ge_fin (testR_ge s k) h
  have h5 := A.ls
  have h6 := A.lt
  have hf : FinAt n (bareTestR s (bangs s (s.size - k) k 0).2) := by
    unfold testR at h
    split at h
    · rename_i p hb; rw [hb]; exact h
    · rename_i t q hb; rw [hb]; exact h
  have h2 := ge_fin (bareTestR_ge s _) hf
  have h3 := nextP_ge s (bangs s (s.size - k) k 0).2
  have e1 := bangs_ag A (s.size - k) (t.size - k) k 0 (by omega) (by omega) (by omega)
  unfold testR
  rw [e1, bareTestR_ag A hf]

theorem ruleEnd_ge (s : ByteArray) (k : Nat) (ts : List PTest) : GeAt (nextP s k) (ruleEnd s k ts) := by
  unfold ruleEnd
  split
  · have h3 := numberR_ge s (nextP s k + 1)
    split
    · rename_i p hn; rw [hn] at h3; simp only [GeAt] at h3 ⊢; omega
    · rename_i v q hn
      rw [hn] at h3
      have h4 := nextP_ge s q
      simp only [GeAt] at h3
      split <;> simp only [GeAt] <;> omega
  · simp only [GeAt]; omega
theorem ruleEnd_ag (A : Ag s t n) {k : Nat} {ts : List PTest} (h : FinAt n (ruleEnd s k ts)) : ruleEnd t k ts = ruleEnd s k ts := by
  have h1 := ge_fin (ruleEnd_ge s k ts) h
  unfold ruleEnd at h ⊢
  rw [next_ag A h1, inR_ag A h1]
  split
  · rename_i a1
    rw [if_pos a1] at h
    cases hn : numberR s (nextP s k + 1) with
    | inl p =>
      rw [hn] at h
      rw [numberR_ag A (k := nextP s k + 1) (by rw [hn]; exact h), hn]
    | inr x =>
      obtain ⟨v, q⟩ := x
      rw [hn] at h
      simp only at h
      have h4 := nextP_ge s q
      have hq : nextP s q ≤ n := by split at h <;> simp only [FinAt] at h <;> omega
      rw [numberR_ag A (k := nextP s k + 1) (by rw [hn]; simp only [FinAt]; omega), hn]
      simp only
      rw [next_ag A hq, inR_ag A hq]
  · rfl
theorem testsR_ge (s : ByteArray) : ∀ (f k : Nat) (ts : List PTest), GeAt k (testsR s f k ts)
  | 0, k, ts => by simp only [testsR, GeAt]; omega
  | f + 1, k, ts => by
    have h1 := nextP_ge s k
    simp only [testsR]
    split
    · have h2 := testR_ge s (nextP s k + 1)
      split
      · rename_i p hn; rw [hn] at h2; simp only [GeAt] at h2 ⊢; omega
      · rename_i t q hn
        rw [hn] at h2
        simp only [GeAt] at h2
        exact (testsR_ge s f q (ts ++ [t])).le (by omega)
    · exact (ruleEnd_ge s k ts).le h1
theorem testsR_ag (A : Ag s t n) : ∀ (f f' k : Nat) (ts : List PTest), FinAt n (testsR s f k ts) → s.size < k + f → t.size < k + f' → testsR t f' k ts = testsR s f k ts
  | 0, f', k, ts, h, h1, h2 => by
    have := A.ls
    simp only [testsR, FinAt] at h
    omega
  | f + 1, f', k, ts, h, h1, h2 => by
    have hk := ge_fin (testsR_ge s (f + 1) k ts) h
    have h3 := A.lt
    have h4 := nextP_ge s k
    obtain ⟨f'', rfl⟩ : ∃ f'', f' = f'' + 1 := ⟨f' - 1, by omega⟩
    simp only [testsR] at h ⊢
    by_cases a1 : inR s (nextP s k) 44 44 = true
    · rw [if_pos a1] at h ⊢
      cases hn : testR s (nextP s k + 1) with
      | inl p =>
        rw [hn] at h
        have hg := testR_ge s (nextP s k + 1)
        have hp : nextP s k + 1 ≤ n := by rw [hn] at hg; simp only [GeAt, FinAt] at hg h; omega
        rw [next_ag A (by omega), inR_ag A (by omega), if_pos a1, testR_ag A (k := nextP s k + 1) (by rw [hn]; exact h), hn]
      | inr x =>
        obtain ⟨u, q⟩ := x
        rw [hn] at h
        simp only at h
        have hg := testR_ge s (nextP s k + 1)
        rw [hn] at hg
        simp only [GeAt] at hg
        have hq := ge_fin (testsR_ge s f q _) h
        rw [next_ag A (by omega), inR_ag A (by omega), if_pos a1, testR_ag A (k := nextP s k + 1) (by rw [hn]; simp only [FinAt]; omega), hn]
        simp only
        exact testsR_ag A f f'' q _ h (by omega) (by omega)
    · rw [if_neg a1] at h ⊢
      have hp := ge_fin (ruleEnd_ge s k ts) h
      rw [next_ag A hp, inR_ag A hp, if_neg a1]
      exact ruleEnd_ag A h
theorem ruleR_ge (s : ByteArray) (k : Nat) : GeAt k (ruleR s k) := by
  have h2 := testR_ge s k
  unfold ruleR
  split
  · rename_i p hn; rw [hn] at h2; exact h2
  · rename_i t q hn
    rw [hn] at h2
    simp only [GeAt] at h2
    exact (testsR_ge s _ q [t]).le h2
theorem ruleR_ag (A : Ag s t n) {k : Nat} (h : FinAt n (ruleR s k)) : ruleR t k = ruleR s k := by
  have h5 := A.ls
  have h6 := A.lt
  unfold ruleR at h ⊢
  cases hn : testR s k with
  | inl p =>
    rw [hn] at h
    rw [testR_ag A (k := k) (by rw [hn]; exact h), hn]
  | inr x =>
    obtain ⟨u, q⟩ := x
    rw [hn] at h
    simp only at h
    have hq := ge_fin (testsR_ge s _ q _) h
    rw [testR_ag A (k := k) (by rw [hn]; simp only [FinAt]; omega), hn]
    simp only
    exact testsR_ag A _ _ q _ h (by omega) (by omega)

theorem colsR_ge (s : ByteArray) : ∀ (f k : Nat) (xs : List ByteArray), GeAt k (colsR s f k xs)
  | 0, k, xs => by have := nextP_ge s k; simp only [colsR, GeAt]; omega
  | f + 1, k, xs => by
    have h1 := nextP_ge s k
    simp only [colsR]
    split
    · have h2 := nameR_ge s (nextP s k + 1)
      split
      · rename_i p hn; rw [hn] at h2; simp only [GeAt] at h2 ⊢; omega
      · rename_i x q hn
        rw [hn] at h2
        simp only [GeAt] at h2
        exact (colsR_ge s f q (xs ++ [x])).le (by omega)
    · split <;> simp only [GeAt] <;> omega
theorem colsR_ag (A : Ag s t n) : ∀ (f f' k : Nat) (xs : List ByteArray), FinAt n (colsR s f k xs) → s.size < k + f → t.size < k + f' → colsR t f' k xs = colsR s f k xs
  | 0, f', k, xs, h, h1, h2 => by
    have := A.ls
    have := nextP_ge s k
    simp only [colsR, FinAt] at h
    omega
  | f + 1, f', k, xs, h, h1, h2 => by
    have hk := ge_fin (colsR_ge s (f + 1) k xs) h
    have h3 := A.lt
    have h4 := nextP_ge s k
    obtain ⟨f'', rfl⟩ : ∃ f'', f' = f'' + 1 := ⟨f' - 1, by omega⟩
    simp only [colsR] at h ⊢
    by_cases a1 : inR s (nextP s k) 44 44 = true
    · rw [if_pos a1] at h ⊢
      cases hn : nameR s (nextP s k + 1) with
      | inl p =>
        rw [hn] at h
        have hg := nameR_ge s (nextP s k + 1)
        have hp : nextP s k + 1 ≤ n := by rw [hn] at hg; simp only [GeAt, FinAt] at hg h; omega
        rw [next_ag A (by omega), inR_ag A (by omega), if_pos a1, nameR_ag A (k := nextP s k + 1) (by rw [hn]; exact h), hn]
      | inr x =>
        obtain ⟨u, q⟩ := x
        rw [hn] at h
        simp only at h
        have hg := nameR_ge s (nextP s k + 1)
        rw [hn] at hg
        simp only [GeAt] at hg
        have hq := ge_fin (colsR_ge s f q _) h
        rw [next_ag A (by omega), inR_ag A (by omega), if_pos a1, nameR_ag A (k := nextP s k + 1) (by rw [hn]; simp only [FinAt]; omega), hn]
        simp only
        exact colsR_ag A f f'' q _ h (by omega) (by omega)
    · rw [if_neg a1] at h ⊢
      have hp : nextP s k ≤ n := by split at h <;> simp only [FinAt] at h <;> omega
      rw [next_ag A hp, inR_ag A hp, inR_ag A hp, if_neg a1]
theorem columnsR_ge (s : ByteArray) (k : Nat) : GeAt k (columnsR s k) := by
  have h1 := nextP_ge s k
  unfold columnsR
  split
  · have h2 := nameR_ge s (nextP s k + 1)
    split
    · rename_i p hn; rw [hn] at h2; simp only [GeAt] at h2 ⊢; omega
    · rename_i x q hn
      rw [hn] at h2
      simp only [GeAt] at h2
      exact (colsR_ge s _ q [x]).le (by omega)
  · simp only [GeAt]; omega
theorem columnsR_ag (A : Ag s t n) {k : Nat} (h : FinAt n (columnsR s k)) : columnsR t k = columnsR s k := by
  have h5 := A.ls
  have h6 := A.lt
  unfold columnsR at h ⊢
  by_cases a1 : inR s (nextP s k) 40 40 = true
  · rw [if_pos a1] at h ⊢
    have hg := nameR_ge s (nextP s k + 1)
    cases hn : nameR s (nextP s k + 1) with
    | inl p =>
      rw [hn] at h hg
      have hp : nextP s k + 1 ≤ n := by simp only [GeAt, FinAt] at hg h; omega
      rw [next_ag A (by omega), inR_ag A (by omega), if_pos a1, nameR_ag A (k := nextP s k + 1) (by rw [hn]; exact h), hn]
    | inr x =>
      obtain ⟨u, q⟩ := x
      rw [hn] at h hg
      simp only [GeAt] at h hg
      have hq := ge_fin (colsR_ge s _ q _) h
      rw [next_ag A (by omega), inR_ag A (by omega), if_pos a1, nameR_ag A (k := nextP s k + 1) (by rw [hn]; simp only [FinAt]; omega), hn]
      simp only
      exact colsR_ag A _ _ q _ h (by omega) (by omega)
  · rw [if_neg a1] at h ⊢
    simp only [FinAt] at h
    rw [next_ag A (by omega), inR_ag A (by omega), if_neg a1]

theorem endIn_ge (s : ByteArray) (k : Nat) (it : PItem) : GeAt k (endIn s k it) := by
  have h1 := nextP_ge s k
  unfold endIn
  split <;> simp only [GeAt] <;> omega
theorem endIn_ag (A : Ag s t n) {k : Nat} {it : PItem} (h : FinAt n (endIn s k it)) : endIn t k it = endIn s k it := by
  have hp : nextP s k ≤ n := by unfold endIn at h; split at h <;> simp only [FinAt] at h <;> omega
  unfold endIn
  rw [next_ag A hp, inR_ag A hp]
theorem inputR_ge (s : ByteArray) (k : Nat) : GeAt k (inputR s k) := by
  have hg := nameR_ge s k
  unfold inputR
  split
  · rename_i p hn; rw [hn] at hg; exact hg
  · rename_i x q hn
    rw [hn] at hg
    simp only [GeAt] at hg
    have h1 := nextP_ge s q
    split
    · have h2 := marksR_ge s (nextP s q + 1)
      split
      · rename_i p hm; rw [hm] at h2; simp only [GeAt] at h2 ⊢; omega
      · rename_i v r hm
        rw [hm] at h2
        simp only [GeAt] at h2
        exact (endIn_ge s r _).le (by omega)
    · exact (endIn_ge s _ _).le (by omega)
theorem inputR_ag (A : Ag s t n) {k : Nat} (h : FinAt n (inputR s k)) : inputR t k = inputR s k := by
  have hg := nameR_ge s k
  unfold inputR at h ⊢
  cases hn : nameR s k with
  | inl p =>
    rw [hn] at h
    rw [nameR_ag A (k := k) (by rw [hn]; exact h), hn]
  | inr x =>
    obtain ⟨x, q⟩ := x
    rw [hn] at h hg
    simp only [GeAt] at h hg
    have h1 := nextP_ge s q
    by_cases a1 : inR s (nextP s q) 47 47 = true
    · rw [if_pos a1] at h
      have h2 := marksR_ge s (nextP s q + 1)
      cases hm : marksR s (nextP s q + 1) with
      | inl p =>
        rw [hm] at h h2
        simp only [GeAt] at h2
        have hq : nextP s q + 1 ≤ n := by simp only [FinAt] at h; omega
        rw [nameR_ag A (k := k) (by rw [hn]; simp only [FinAt]; omega), hn]
        simp only
        rw [next_ag A (by omega), inR_ag A (by omega), if_pos a1, if_pos a1, marksR_ag A (k := nextP s q + 1) (by rw [hm]; exact h), hm]
      | inr y =>
        obtain ⟨v, r⟩ := y
        rw [hm] at h h2
        simp only [GeAt] at h h2
        have hq := ge_fin (endIn_ge s r _) h
        rw [nameR_ag A (k := k) (by rw [hn]; simp only [FinAt]; omega), hn]
        simp only
        rw [next_ag A (by omega), inR_ag A (by omega), if_pos a1, if_pos a1, marksR_ag A (k := nextP s q + 1) (by rw [hm]; simp only [FinAt]; omega), hm]
        simp only
        exact endIn_ag A h
    · rw [if_neg a1] at h
      have hq := ge_fin (endIn_ge s _ _) h
      rw [nameR_ag A (k := k) (by rw [hn]; simp only [FinAt]; omega), hn]
      simp only
      rw [next_ag A hq, inR_ag A hq, if_neg a1, if_neg a1]
      exact endIn_ag A h

theorem rulesR_ge (s : ByteArray) : ∀ (f k : Nat) (it : PItem), GeAt k (rulesR s f k it)
  | 0, k, it => by simp only [rulesR, GeAt]; omega
  | f + 1, k, it => by
    have h1 := nextP_ge s k
    simp only [rulesR]
    split
    · simp only [GeAt]; omega
    · have h2 := ruleR_ge s (nextP s k)
      split
      · rename_i p hn; rw [hn] at h2; simp only [GeAt] at h2 ⊢; omega
      · rename_i r q hn
        rw [hn] at h2
        simp only [GeAt] at h2
        exact (rulesR_ge s f q _).le (by omega)
theorem rulesR_ag (A : Ag s t n) : ∀ (f f' k : Nat) (it : PItem), k ≤ s.size → FinAt n (rulesR s f k it) → s.size < k + f → t.size < k + f' → rulesR t f' k it = rulesR s f k it
  | 0, f', k, it, hks, h, h1, h2 => by
    have := A.ls
    simp only [rulesR, FinAt] at h
    omega
  | f + 1, f', k, it, hks, h, h1, h2 => by
    have hk := ge_fin (rulesR_ge s (f + 1) k it) h
    have h3 := A.lt
    have h4 := nextP_ge s k
    have h5 := nextP_le hks
    obtain ⟨f'', rfl⟩ : ∃ f'', f' = f'' + 1 := ⟨f' - 1, by omega⟩
    simp only [rulesR] at h ⊢
    by_cases a1 : inR s (nextP s k) 125 125 = true
    · rw [if_pos a1] at h
      simp only [FinAt] at h
      rw [next_ag A (by omega), inR_ag A (by omega), if_pos a1, if_pos a1]
    · rw [if_neg a1] at h ⊢
      have hg := ruleR_ge s (nextP s k)
      cases hn : ruleR s (nextP s k) with
      | inl p =>
        rw [hn] at h hg
        have hp : nextP s k ≤ n := by simp only [GeAt, FinAt] at hg h; omega
        rw [next_ag A hp, inR_ag A hp, if_neg a1, ruleR_ag A (k := nextP s k) (by rw [hn]; exact h), hn]
      | inr x =>
        obtain ⟨u, q⟩ := x
        have hb := ruleR_bd h5 hn
        rw [hn] at h hg
        simp only [GeAt] at h hg
        have hq := ge_fin (rulesR_ge s f q _) h
        rw [next_ag A (by omega), inR_ag A (by omega), if_neg a1, ruleR_ag A (k := nextP s k) (by rw [hn]; simp only [FinAt]; omega), hn]
        simp only
        exact rulesR_ag A f f'' q _ hb.2 h (by omega) (by omega)
theorem bodyR_ge (s : ByteArray) (k : Nat) (it : PItem) : GeAt k (bodyR s k it) := by
  have h1 := nextP_ge s k
  unfold bodyR
  split
  · exact (rulesR_ge s _ _ _).le (by omega)
  · simp only [GeAt]; omega
theorem bodyR_ag (A : Ag s t n) {k : Nat} {it : PItem} (h : FinAt n (bodyR s k it)) : bodyR t k it = bodyR s k it := by
  have h5 := A.ls
  have h6 := A.lt
  unfold bodyR at h ⊢
  by_cases a1 : inR s (nextP s k) 123 123 = true
  · rw [if_pos a1] at h ⊢
    have hq := ge_fin (rulesR_ge s _ _ _) h
    rw [next_ag A (by omega), inR_ag A (by omega), if_pos a1]
    exact rulesR_ag A _ _ _ _ (by omega) h (by omega) (by omega)
  · rw [if_neg a1] at h ⊢
    simp only [FinAt] at h
    rw [next_ag A (by omega), inR_ag A (by omega), if_neg a1]
theorem dropsR_ge (s : ByteArray) (k : Nat) (it : PItem) : GeAt k (dropsR s k it) := by
  have h1 := nextP_ge s k
  unfold dropsR
  split
  · have h2 := marksR_ge s (nextP s k + 1)
    split
    · rename_i p hm; rw [hm] at h2; simp only [GeAt] at h2 ⊢; omega
    · rename_i v r hm
      rw [hm] at h2
      simp only [GeAt] at h2
      exact (bodyR_ge s r _).le (by omega)
  · exact (bodyR_ge s _ _).le h1
theorem dropsR_ag (A : Ag s t n) {k : Nat} {it : PItem} (h : FinAt n (dropsR s k it)) : dropsR t k it = dropsR s k it := by
  unfold dropsR at h ⊢
  by_cases a1 : inR s (nextP s k) 92 92 = true
  · rw [if_pos a1] at h ⊢
    have h2 := marksR_ge s (nextP s k + 1)
    cases hm : marksR s (nextP s k + 1) with
    | inl p =>
      rw [hm] at h h2
      simp only [GeAt] at h2
      have hq : nextP s k + 1 ≤ n := by simp only [FinAt] at h; omega
      rw [next_ag A (by omega), inR_ag A (by omega), if_pos a1, marksR_ag A (k := nextP s k + 1) (by rw [hm]; exact h), hm]
    | inr y =>
      obtain ⟨v, r⟩ := y
      rw [hm] at h h2
      simp only [GeAt] at h h2
      have hq := ge_fin (bodyR_ge s r _) h
      rw [next_ag A (by omega), inR_ag A (by omega), if_pos a1, marksR_ag A (k := nextP s k + 1) (by rw [hm]; simp only [FinAt]; omega), hm]
      simp only
      exact bodyR_ag A h
  · rw [if_neg a1] at h ⊢
    have hq := ge_fin (bodyR_ge s _ _) h
    rw [next_ag A hq, inR_ag A hq, if_neg a1]
    exact bodyR_ag A h
theorem tableR_ge (s : ByteArray) (k : Nat) : GeAt k (tableR s k) := by
  have h1 := nameR_ge s k
  unfold tableR
  split
  · rename_i p hn; rw [hn] at h1; exact h1
  · rename_i x q hn
    rw [hn] at h1
    simp only [GeAt] at h1
    have h2 := policyR_ge s q
    split
    · rename_i p hp; rw [hp] at h2; simp only [GeAt] at h2 ⊢; omega
    · rename_i c q2 hp
      rw [hp] at h2
      simp only [GeAt] at h2
      have h3 := columnsR_ge s q2
      split
      · rename_i p hc; rw [hc] at h3; simp only [GeAt] at h3 ⊢; omega
      · rename_i xs q3 hc
        rw [hc] at h3
        simp only [GeAt] at h3
        exact (dropsR_ge s q3 _).le (by omega)
theorem tableR_ag (A : Ag s t n) {k : Nat} (h : FinAt n (tableR s k)) : tableR t k = tableR s k := by
  have h1 := nameR_ge s k
  unfold tableR at h ⊢
  cases hn : nameR s k with
  | inl p =>
    rw [hn] at h
    rw [nameR_ag A (k := k) (by rw [hn]; exact h), hn]
  | inr x =>
    obtain ⟨x, q⟩ := x
    rw [hn] at h h1
    simp only [GeAt] at h h1
    have h2 := policyR_ge s q
    cases hp : policyR s q with
    | inl p =>
      rw [hp] at h h2
      have hq : q ≤ n := by simp only [FinAt, GeAt] at h h2; omega
      rw [nameR_ag A (k := k) (by rw [hn]; exact hq), hn]
      simp only
      rw [policyR_ag A (k := q) (by rw [hp]; exact h), hp]
    | inr y =>
      obtain ⟨c, q2⟩ := y
      rw [hp] at h h2
      simp only [GeAt] at h h2
      have h3 := columnsR_ge s q2
      cases hc : columnsR s q2 with
      | inl p =>
        rw [hc] at h h3
        have hq : q2 ≤ n := by simp only [FinAt, GeAt] at h h3; omega
        rw [nameR_ag A (k := k) (by rw [hn]; simp only [FinAt]; omega), hn]
        simp only
        rw [policyR_ag A (k := q) (by rw [hp]; exact hq), hp]
        simp only
        rw [columnsR_ag A (k := q2) (by rw [hc]; exact h), hc]
      | inr z =>
        obtain ⟨xs, q3⟩ := z
        rw [hc] at h h3
        simp only [GeAt] at h h3
        have hq := ge_fin (dropsR_ge s q3 _) h
        rw [nameR_ag A (k := k) (by rw [hn]; simp only [FinAt]; omega), hn]
        simp only
        rw [policyR_ag A (k := q) (by rw [hp]; simp only [FinAt]; omega), hp]
        simp only
        rw [columnsR_ag A (k := q2) (by rw [hc]; exact hq), hc]
        simp only
        exact dropsR_ag A h
theorem itemR_ge (s : ByteArray) (k : Nat) : GeAt k (itemR s k) := by
  have h1 := nextP_ge s k
  have h2 := lowEnd_ge s (nextP s k)
  unfold itemR
  split
  · exact (inputR_ge s _).le (by omega)
  split
  · exact (tableR_ge s _).le (by omega)
  · simp only [GeAt]; omega
theorem itemR_ag (A : Ag s t n) {k : Nat} (h : FinAt n (itemR s k)) : itemR t k = itemR s k := by
  have h2 := lowEnd_ge s (nextP s k)
  have key : lowEnd s (nextP s k) ≤ n := by
    unfold itemR at h
    split at h
    · exact ge_fin (inputR_ge s _) h
    split at h
    · exact ge_fin (tableR_ge s _) h
    · simp only [FinAt] at h
      rw [h]
      rw [show lowEnd s n = n from skipTo_stop A.nl]; exact Nat.le_refl _
  unfold itemR at h ⊢
  rw [next_ag A (by omega), low_ag A key, extract_ag A key]
  split
  · rename_i a1
    rw [if_pos a1] at h
    exact inputR_ag A h
  · rename_i a1
    rw [if_neg a1] at h
    split
    · rename_i a2
      rw [if_pos a2] at h
      exact tableR_ag A h
    · rfl
theorem itemsR_ge (s : ByteArray) : ∀ (f k : Nat) (its : List PItem) (m : Nat), itemsR s f k its = .inl m → k ≤ m
  | 0, k, its, m, h => by simp only [itemsR, Sum.inl.injEq] at h; omega
  | f + 1, k, its, m, h => by
    have h1 := nextP_ge s k
    simp only [itemsR] at h
    split at h
    · cases h
    · have h2 := itemR_ge s (nextP s k)
      split at h
      · rename_i p hn; rw [hn] at h2; simp only [GeAt, Sum.inl.injEq] at h2 h; omega
      · rename_i it q hn
        rw [hn] at h2
        simp only [GeAt] at h2
        have := itemsR_ge s f q _ m h
        omega
theorem itemsR_ag (A : Ag s t n) : ∀ (f f' k : Nat) (its : List PItem), k ≤ s.size → itemsR s f k its = .inl n → s.size < k + f → t.size < k + f' → itemsR t f' k its = .inl n
  | 0, f', k, its, hks, h, h1, h2 => by
    have := A.ls
    simp only [itemsR, Sum.inl.injEq] at h
    omega
  | f + 1, f', k, its, hks, h, h1, h2 => by
    have hk := itemsR_ge s _ _ _ _ h
    have h3 := A.lt
    have h8 := A.ls
    have h4 := nextP_ge s k
    have h5 := nextP_le hks
    obtain ⟨f'', rfl⟩ : ∃ f'', f' = f'' + 1 := ⟨f' - 1, by omega⟩
    simp only [itemsR] at h ⊢
    split at h
    · cases h
    · rename_i a1
      have h2' := itemR_ge s (nextP s k)
      cases hn : itemR s (nextP s k) with
      | inl p =>
        rw [hn] at h h2'
        simp only [GeAt, Sum.inl.injEq] at h2' h
        rw [next_ag A (by omega), if_neg (by omega), itemR_ag A (k := nextP s k) (by rw [hn]; exact h), hn]
        simp only [h]
      | inr x =>
        obtain ⟨it, q⟩ := x
        have hb := itemR_bd h5 hn
        rw [hn] at h h2'
        simp only [GeAt] at h2' h
        have hq := itemsR_ge s f q _ n h
        rw [next_ag A (by omega), if_neg (by omega), itemR_ag A (k := nextP s k) (by rw [hn]; exact hq), hn]
        simp only
        exact itemsR_ag A f f'' q _ hb.2 h (by omega) (by omega)
/-- A text that is wrong at a byte that is no letter is wrong there whatever follows. -/
theorem planR_ag (A : Ag s t n) (h : planR s = .inl n) : planR t = .inl n := by
  unfold planR at h ⊢
  exact itemsR_ag A _ _ 0 [] (by omega) h (by omega) (by omega)
end

end Go.Proofs.YthnggjaecngbiaaDoor
