import Derived.Test.YtdgbmcbkbkbdoaaGreatDoorRtA
import Derived.Test.YtdgbmcbkbkbdoaaGreatDoorWfA
namespace Go.Proofs.YtdgbmcbkbkbdoaaGreatDoor
open Go.RowKit

theorem skipTo_all (p : Int → Bool) (s : ByteArray) : ∀ (f k j : Nat), k ≤ j → j < skipTo p s f k → p (byteAt s j) = true
  | 0, k, j, h1, h2 => by rw [skipTo] at h2; omega
  | f + 1, k, j, h1, h2 => by
    rw [skipTo] at h2
    split at h2
    · rename_i hp
      by_cases he : j = k
      · subst he; exact hp
      · exact skipTo_all p s f (k + 1) j (by omega) h2
    · omega
theorem nameR_can {s : ByteArray} {k q : Nat} {x : ByteArray} (hk : k ≤ s.size) (h : nameR s k = .inr (x, q)) : NameOK x := by
  unfold nameR at h
  split at h
  · rename_i hn
    simp only [Sum.inr.injEq, Prod.mk.injEq] at h
    rw [h.1] at hn
    refine ⟨hn, ?_⟩
    rw [← h.1]
    have hp := nextP_le hk
    intro c hc
    rw [ByteArray.data_extract, Array.toList_extract, List.extract_eq_take_drop] at hc
    obtain ⟨i, hi, rfl⟩ := List.mem_iff_getElem.1 hc
    have hi' := hi
    simp only [List.length_take, List.length_drop] at hi'
    have hl := skipTo_all isLow s (s.size - nextP s k) (nextP s k) (nextP s k + i) (by omega) (by unfold lowEnd at hi'; omega)
    have hlt : nextP s k + i < s.size := by have := lowEnd_le hp; omega
    rw [byteAt_in hlt] at hl
    have : (List.take (lowEnd s (nextP s k) - nextP s k) (List.drop (nextP s k) s.data.toList))[i] = s[nextP s k + i] := by
      rw [List.getElem_take, List.getElem_drop]; rfl
    rw [this]; exact hl
  · cases h
theorem policyR_can {s : ByteArray} {k q : Nat} {v : Int} (h : policyR s k = .inr (v, q)) : isPol v = true := by
  unfold policyR at h
  split at h
  · rename_i hp
    simp only [Sum.inr.injEq, Prod.mk.injEq] at h
    rw [← h.1]; exact hp
  · cases h
theorem numberTestR_can {s : ByteArray} {k q : Nat} {t : PTest} (hk : k ≤ s.size) (h : numberTestR s k = .inr (t, q)) : CanT t := by
  unfold numberTestR at h
  split at h
  · cases h
  rename_i lo q1 hn
  have b1 := numberR_bd hk hn
  have h1 := nextP_le b1.2.2
  split at h
  · rename_i ha
    have h5 := inR_lt (by omega) ha
    split at h
    · rename_i hb
      have h6 := inR_lt (by omega) hb
      split at h
      · cases h
      · rename_i hi r hn2
        have b2 := numberR_bd (by omega) hn2
        simp only [Sum.inr.injEq, Prod.mk.injEq] at h
        rw [← h.1]
        exact ⟨by simp, b1.1, b2.1, by simp, by simp⟩
    · cases h
  · simp only [Sum.inr.injEq, Prod.mk.injEq] at h
    rw [← h.1]
    exact ⟨by simp, b1.1, by simp, by simp, by simp⟩
theorem wordTestR_can {s : ByteArray} {k q : Nat} {t : PTest} (h : wordTestR s k = .inr (t, q)) : CanT t := by
  unfold wordTestR at h
  split at h
  · simp only [Sum.inr.injEq, Prod.mk.injEq] at h
    rw [← h.1]; exact ⟨by simp, by simp, by simp, by simp, by simp⟩
  split at h
  · simp only [Sum.inr.injEq, Prod.mk.injEq] at h
    rw [← h.1]; exact ⟨by simp, by simp, by simp, by simp, by simp⟩
  · cases h
theorem withNum_can {s : ByteArray} {k q : Nat} {t : PTest} {c : Int} (hc : 5 ≤ c ∧ c ≤ 6) (hk : k ≤ s.size) (h : withNum c (numberR s k) = .inr (t, q)) : CanT t := by
  cases hn : numberR s k with
  | inl p => rw [hn] at h; cases h
  | inr vq =>
    obtain ⟨v, q1⟩ := vq
    have b1 := numberR_bd hk hn
    rw [hn] at h
    simp only [withNum, Sum.inr.injEq, Prod.mk.injEq] at h
    rw [← h.1]; exact ⟨by simp only; omega, b1.1, by simp, by simp only; omega, by simp⟩
theorem bareTestR_can {s : ByteArray} {k q : Nat} {t : PTest} (hk : k ≤ s.size) (h : bareTestR s k = .inr (t, q)) : CanT t := by
  have h1 := nextP_le hk
  unfold bareTestR at h
  split at h
  · simp only [Sum.inr.injEq, Prod.mk.injEq] at h
    rw [← h.1]; exact ⟨by simp, by simp, by simp, by simp, by simp⟩
  split at h
  · rename_i ha
    have := inR_lt (by omega) ha
    exact withNum_can (by omega) (by omega) h
  split at h
  · rename_i ha
    have := inR_lt (by omega) ha
    exact withNum_can (by omega) (by omega) h
  split at h
  · exact wordTestR_can h
  · exact numberTestR_can h1 h
theorem testR_can {s : ByteArray} {k q : Nat} {t : PTest} (hk : k ≤ s.size) (h : testR s k = .inr (t, q)) : CanT t := by
  have hb := bangs_bd s (s.size - k) k 0 hk
  unfold testR at h
  split at h
  · cases h
  · rename_i t' q' hn
    have := bareTestR_can hb.2 hn
    simp only [Sum.inr.injEq, Prod.mk.injEq] at h
    rw [← h.1]
    exact ⟨this.kind, this.low, this.high, this.low0, this.high0⟩
theorem testsR_can (s : ByteArray) : ∀ (f k : Nat) (ts : List PTest) (r : PRule) (q : Nat), k ≤ s.size → ts ≠ [] → (∀ t ∈ ts, CanT t) → testsR s f k ts = .inr (r, q) → CanR r
  | 0, k, ts, r, q, hk, _, _, h => by cases h
  | f + 1, k, ts, r, q, hk, hl, hw, h => by
    have h1 := nextP_le hk
    have h4 := nextP_ge s k
    simp only [testsR] at h
    split at h
    · rename_i ha
      have h5 := inR_lt (by omega) ha
      split at h
      · cases h
      · rename_i t q' hn
        have b1 := testR_bd (by omega) hn
        have w1 := testR_can (by omega) hn
        refine testsR_can s f q' (ts ++ [t]) r q b1.2 (by simp) ?_ h
        intro x hx
        simp at hx
        rcases hx with hx | rfl
        · exact hw x hx
        · exact w1
    · unfold ruleEnd at h
      split at h
      · rename_i ha
        have h5 := inR_lt (by omega) ha
        split at h
        · cases h
        · rename_i v q' hn
          have b1 := numberR_bd (by omega) hn
          split at h
          · simp only [Sum.inr.injEq, Prod.mk.injEq] at h
            rw [← h.1]
            exact ⟨hl, hw, b1.1⟩
          · cases h
      · cases h
theorem ruleR_can {s : ByteArray} {k q : Nat} {r : PRule} (hk : k ≤ s.size) (h : ruleR s k = .inr (r, q)) : CanR r := by
  unfold ruleR at h
  split at h
  · cases h
  · rename_i t q' hn
    have b1 := testR_bd hk hn
    exact testsR_can s _ q' [t] r q b1.2 (by simp) (by intro x hx; simp at hx; subst hx; exact testR_can hk hn) h
theorem rulesR_can (s : ByteArray) : ∀ (f k : Nat) (i it : PItem) (q : Nat), k ≤ s.size → CanTab i → rulesR s f k i = .inr (it, q) → CanTab it
  | 0, k, i, it, q, hk, _, h => by cases h
  | f + 1, k, i, it, q, hk, hw, h => by
    have h1 := nextP_le hk
    have h4 := nextP_ge s k
    simp only [rulesR] at h
    split at h
    · simp only [Sum.inr.injEq, Prod.mk.injEq] at h
      rw [← h.1]; exact hw
    · split at h
      · cases h
      · rename_i r q' hn
        have b1 := ruleR_bd h1 hn
        have w1 := ruleR_can h1 hn
        refine rulesR_can s f q' { i with rules := i.rules ++ [r] } it q b1.2 ⟨hw.isT, hw.name, hw.marks, hw.pol, hw.ne, hw.cols, hw.drops, ?_⟩ h
        intro x hx
        simp at hx
        rcases hx with hx | rfl
        · exact hw.rules x hx
        · exact w1
theorem colsR_can (s : ByteArray) : ∀ (f k : Nat) (xs ys : List ByteArray) (q : Nat), k ≤ s.size → xs ≠ [] → (∀ c ∈ xs, NameOK c) → colsR s f k xs = .inr (ys, q) → ys ≠ [] ∧ ∀ c ∈ ys, NameOK c
  | 0, k, xs, ys, q, hk, _, _, h => by cases h
  | f + 1, k, xs, ys, q, hk, hl, hw, h => by
    have h1 := nextP_le hk
    have h4 := nextP_ge s k
    simp only [colsR] at h
    split at h
    · rename_i ha
      have h5 := inR_lt (by omega) ha
      split at h
      · cases h
      · rename_i x q' hn
        have b1 := nameR_bd (by omega) hn
        have b2 := nameR_can (by omega) hn
        refine colsR_can s f q' (xs ++ [x]) ys q b1.2.1 (by simp) ?_ h
        intro y hy
        simp at hy
        rcases hy with hy | rfl
        · exact hw y hy
        · exact b2
    · split at h
      · simp only [Sum.inr.injEq, Prod.mk.injEq] at h
        rw [← h.1]; exact ⟨hl, hw⟩
      · cases h
theorem columnsR_can {s : ByteArray} {k q : Nat} {xs : List ByteArray} (h : columnsR s k = .inr (xs, q)) : xs ≠ [] ∧ ∀ c ∈ xs, NameOK c := by
  unfold columnsR at h
  split at h
  · rename_i ha
    have h5 := inR_lt (by omega) ha
    split at h
    · cases h
    · rename_i x q' hn
      have b1 := nameR_bd (by omega) hn
      have b2 := nameR_can (by omega) hn
      exact colsR_can s _ q' [x] xs q b1.2.1 (by simp) (by intro y hy; simp at hy; subst hy; exact b2) h
  · cases h
theorem inputR_can {s : ByteArray} {k q : Nat} {it : PItem} (hk : k ≤ s.size) (h : inputR s k = .inr (it, q)) : CanIn it := by
  unfold inputR at h
  split at h
  · cases h
  rename_i x q1 hn
  have b1 := nameR_bd hk hn
  have b0 := nameR_can hk hn
  have h1 := nextP_le b1.2.1
  have fin : ∀ (r m : Nat), m ≤ 7 → endIn s r ⟨x, false, m, 0, [], 0, []⟩ = .inr (it, q) → CanIn it := fun r m hm h => by
    unfold endIn at h
    split at h
    · simp only [Sum.inr.injEq, Prod.mk.injEq] at h
      rw [← h.1]; exact ⟨rfl, b0, hm, rfl, rfl, rfl, rfl⟩
    · cases h
  split at h
  · rename_i ha
    have h3 := inR_lt (by omega) ha
    split at h
    · cases h
    · rename_i v r hm
      have b2 := marksR_bd (by omega) hm
      exact fin r v b2.1.2.2 h
  · exact fin _ 0 (by omega) h
theorem tableR_can {s : ByteArray} {k q : Nat} {it : PItem} (hk : k ≤ s.size) (h : tableR s k = .inr (it, q)) : CanTab it := by
  unfold tableR at h
  split at h
  · cases h
  rename_i x q1 hn
  have b1 := nameR_bd hk hn
  have b0 := nameR_can hk hn
  split at h
  · cases h
  rename_i c q2 hp
  have b2 := policyR_bd b1.2.1 hp
  have p2 := policyR_can hp
  split at h
  · cases h
  rename_i xs q3 hc
  have b3 := columnsR_bd b2.1.2 hc
  have w3 := columnsR_can hc
  have h1 := nextP_le b3.2
  have fin : ∀ (r d : Nat), r ≤ s.size → d ≤ 7 → bodyR s r ⟨x, true, 0, c, xs, d, []⟩ = .inr (it, q) → CanTab it := fun r d hr hd h => by
    unfold bodyR at h
    split at h
    · rename_i hc
      have := nextP_le hr
      have := inR_lt (by omega) hc
      exact rulesR_can s _ _ _ _ _ (by omega) ⟨rfl, b0, rfl, p2, w3.1, w3.2, hd, by simp⟩ h
    · cases h
  unfold dropsR at h
  split at h
  · rename_i ha
    have h3 := inR_lt (by omega) ha
    split at h
    · cases h
    · rename_i v r hm
      have b4 := marksR_bd (by omega) hm
      exact fin r v b4.2 b4.1.2.2 h
  · exact fin _ 0 h1 (by omega) h
theorem itemR_can {s : ByteArray} {k q : Nat} {it : PItem} (hk : k ≤ s.size) (h : itemR s k = .inr (it, q)) : CanI it := by
  have hp := nextP_le hk
  have hq := lowEnd_le hp
  unfold itemR at h
  split at h
  · exact Or.inl (inputR_can hq h)
  split at h
  · exact Or.inr (tableR_can hq h)
  · cases h
theorem itemsR_can (s : ByteArray) : ∀ (f k : Nat) (xs its : List PItem), k ≤ s.size → (∀ i ∈ xs, CanI i) → itemsR s f k xs = .inr its → ∀ i ∈ its, CanI i
  | 0, k, xs, its, hk, _, h => by cases h
  | f + 1, k, xs, its, hk, hw, h => by
    have h1 := nextP_le hk
    have h4 := nextP_ge s k
    simp only [itemsR] at h
    split at h
    · simp only [Sum.inr.injEq] at h
      rw [← h]; exact hw
    · split at h
      · cases h
      · rename_i it q hn
        have b1 := itemR_bd h1 hn
        refine itemsR_can s f q (xs ++ [it]) its b1.2 ?_ h
        intro y hy
        simp at hy
        rcases hy with hy | rfl
        · exact hw y hy
        · exact itemR_can h1 hn
theorem planR_can {s : ByteArray} {its : List PItem} (h : planR s = .inr its) : ∀ i ∈ its, CanI i :=
  itemsR_can s _ 0 [] its (by omega) (by simp) h

end Go.Proofs.YtdgbmcbkbkbdoaaGreatDoor
