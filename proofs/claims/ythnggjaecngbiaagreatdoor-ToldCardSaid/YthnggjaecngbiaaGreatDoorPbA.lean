import Derived.Test.YthnggjaecngbiaaGreatDoorCnA
import Derived.Test.YthnggjaecngbiaaGreatDoorMdB
namespace Go.Proofs.YthnggjaecngbiaaGreatDoor
open Go.RowKit

/-- Where a reader gives up lies within the text. -/
def InAt {α : Type} (s : ByteArray) (r : Res α) : Prop := ∀ p, r = .inl p → p ≤ s.size
theorem nameR_in {s : ByteArray} {k : Nat} (hk : k ≤ s.size) : InAt s (nameR s k) := fun p h => by
  have := nextP_le hk
  unfold nameR at h
  split at h
  · cases h
  · simp only [Sum.inl.injEq] at h; omega
theorem marksR_in {s : ByteArray} {k : Nat} (hk : k ≤ s.size) : InAt s (marksR s k) := fun p h => by
  have := mk3_le hk
  unfold marksR at h
  split at h
  · simp only [Sum.inl.injEq] at h; omega
  · cases h
theorem numberR_in {s : ByteArray} {k : Nat} (hk : k ≤ s.size) : InAt s (numberR s k) := fun p h => by
  have h1 := nextP_le hk
  have h2 : numAt s k ≤ s.size := adv_le h1 (by omega)
  have h3 := digEnd_le h2
  unfold numberR at h
  split at h
  · rename_i q hq
    simp only [Sum.inl.injEq] at h
    unfold digitsR at hq
    split at hq
    · simp only [Sum.inl.injEq] at hq; omega
    split at hq
    · simp only [Sum.inl.injEq] at hq; omega
    · cases hq
  · cases h
theorem policyR_in {s : ByteArray} {k : Nat} (hk : k ≤ s.size) : InAt s (policyR s k) := fun p h => by
  have := nextP_le hk
  unfold policyR at h
  split at h
  · cases h
  · simp only [Sum.inl.injEq] at h; omega
theorem bareTestR_in {s : ByteArray} {k : Nat} (hk : k ≤ s.size) : InAt s (bareTestR s k) := fun p h => by
  have h1 := nextP_le hk
  unfold bareTestR at h
  split at h
  · cases h
  split at h
  · rename_i ha
    have := inR_lt (by omega) ha
    cases hn : numberR s (nextP s k + 1) with
    | inl q => rw [hn] at h; simp only [withNum, Sum.inl.injEq] at h; have := numberR_in (by omega) q hn; omega
    | inr q => rw [hn] at h; cases h
  split at h
  · rename_i ha
    have := inR_lt (by omega) ha
    cases hn : numberR s (nextP s k + 1) with
    | inl q => rw [hn] at h; simp only [withNum, Sum.inl.injEq] at h; have := numberR_in (by omega) q hn; omega
    | inr q => rw [hn] at h; cases h
  split at h
  · unfold wordTestR at h
    have := nextP_le h1
    split at h
    · cases h
    split at h
    · cases h
    · simp only [Sum.inl.injEq] at h; omega
  · unfold numberTestR at h
    split at h
    · rename_i q hq
      simp only [Sum.inl.injEq] at h
      have := numberR_in h1 q hq
      omega
    · rename_i lo q hq
      have hb := numberR_bd h1 hq
      have h2 := nextP_le hb.2.2
      split at h
      · rename_i ha
        have h3 := inR_lt (by omega) ha
        split at h
        · rename_i hb2
          have h4 := inR_lt (by omega) hb2
          split at h
          · rename_i q2 hq2
            simp only [Sum.inl.injEq] at h
            have := numberR_in (by omega) q2 hq2
            omega
          · cases h
        · simp only [Sum.inl.injEq] at h; omega
      · cases h
theorem testR_in {s : ByteArray} {k : Nat} (hk : k ≤ s.size) : InAt s (testR s k) := fun p h => by
  have hb := bangs_bd s (s.size - k) k 0 hk
  unfold testR at h
  split at h
  · rename_i q hq
    simp only [Sum.inl.injEq] at h
    have := bareTestR_in hb.2 q hq
    omega
  · cases h
theorem ruleEnd_in {s : ByteArray} {k : Nat} {ts : List PTest} (hk : k ≤ s.size) : InAt s (ruleEnd s k ts) := fun p h => by
  have h1 := nextP_le hk
  unfold ruleEnd at h
  split at h
  · rename_i ha
    have h2 := inR_lt (by omega) ha
    split at h
    · rename_i q hq
      simp only [Sum.inl.injEq] at h
      have := numberR_in (by omega) q hq
      omega
    · rename_i v q hq
      have hb := numberR_bd (by omega) hq
      have := nextP_le hb.2.2
      split at h
      · cases h
      · simp only [Sum.inl.injEq] at h; omega
  · simp only [Sum.inl.injEq] at h; omega
theorem testsR_in (s : ByteArray) : ∀ (f k : Nat) (ts : List PTest), k ≤ s.size → InAt s (testsR s f k ts)
  | 0, k, ts, hk => fun p h => by simp only [testsR, Sum.inl.injEq] at h; omega
  | f + 1, k, ts, hk => fun p h => by
    have h1 := nextP_le hk
    simp only [testsR] at h
    split at h
    · rename_i ha
      have h2 := inR_lt (by omega) ha
      split at h
      · rename_i q hq
        simp only [Sum.inl.injEq] at h
        have := testR_in (by omega) q hq
        omega
      · rename_i t q hq
        have hb := testR_bd (by omega) hq
        exact testsR_in s f q _ hb.2 p h
    · exact ruleEnd_in hk p h
theorem ruleR_in {s : ByteArray} {k : Nat} (hk : k ≤ s.size) : InAt s (ruleR s k) := fun p h => by
  unfold ruleR at h
  split at h
  · rename_i q hq
    simp only [Sum.inl.injEq] at h
    have := testR_in hk q hq
    omega
  · rename_i t q hq
    have hb := testR_bd hk hq
    exact testsR_in s _ q _ hb.2 p h
theorem rulesR_in (s : ByteArray) : ∀ (f k : Nat) (it : PItem), k ≤ s.size → InAt s (rulesR s f k it)
  | 0, k, it, hk => fun p h => by simp only [rulesR, Sum.inl.injEq] at h; omega
  | f + 1, k, it, hk => fun p h => by
    have h1 := nextP_le hk
    simp only [rulesR] at h
    split at h
    · cases h
    · split at h
      · rename_i q hq
        simp only [Sum.inl.injEq] at h
        have := ruleR_in h1 q hq
        omega
      · rename_i r q hq
        have hb := ruleR_bd h1 hq
        exact rulesR_in s f q _ hb.2 p h
theorem colsR_in (s : ByteArray) : ∀ (f k : Nat) (xs : List ByteArray), k ≤ s.size → InAt s (colsR s f k xs)
  | 0, k, xs, hk => fun p h => by have := nextP_le hk; simp only [colsR, Sum.inl.injEq] at h; omega
  | f + 1, k, xs, hk => fun p h => by
    have h1 := nextP_le hk
    simp only [colsR] at h
    split at h
    · rename_i ha
      have h2 := inR_lt (by omega) ha
      split at h
      · rename_i q hq
        simp only [Sum.inl.injEq] at h
        have := nameR_in (by omega) q hq
        omega
      · rename_i x q hq
        have hb := nameR_bd (by omega) hq
        exact colsR_in s f q _ hb.2.1 p h
    · split at h
      · cases h
      · simp only [Sum.inl.injEq] at h; omega
theorem columnsR_in {s : ByteArray} {k : Nat} (hk : k ≤ s.size) : InAt s (columnsR s k) := fun p h => by
  have h1 := nextP_le hk
  unfold columnsR at h
  split at h
  · rename_i ha
    have h2 := inR_lt (by omega) ha
    split at h
    · rename_i q hq
      simp only [Sum.inl.injEq] at h
      have := nameR_in (by omega) q hq
      omega
    · rename_i x q hq
      have hb := nameR_bd (by omega) hq
      exact colsR_in s _ q _ hb.2.1 p h
  · simp only [Sum.inl.injEq] at h; omega
theorem endIn_in {s : ByteArray} {k : Nat} {it : PItem} (hk : k ≤ s.size) : InAt s (endIn s k it) := fun p h => by
  have h1 := nextP_le hk
  unfold endIn at h
  split at h
  · cases h
  · simp only [Sum.inl.injEq] at h; omega
theorem inputR_in {s : ByteArray} {k : Nat} (hk : k ≤ s.size) : InAt s (inputR s k) := fun p h => by
  unfold inputR at h
  split at h
  · rename_i q hq
    simp only [Sum.inl.injEq] at h
    have := nameR_in hk q hq
    omega
  · rename_i x q hq
    have hb := nameR_bd hk hq
    have h1 := nextP_le hb.2.1
    split at h
    · rename_i ha
      have h2 := inR_lt (by omega) ha
      split at h
      · rename_i q2 hq2
        simp only [Sum.inl.injEq] at h
        have := marksR_in (by omega) q2 hq2
        omega
      · rename_i v r hm
        have hb2 := marksR_bd (by omega) hm
        exact endIn_in hb2.2 p h
    · exact endIn_in h1 p h
theorem bodyR_in {s : ByteArray} {k : Nat} {it : PItem} (hk : k ≤ s.size) : InAt s (bodyR s k it) := fun p h => by
  have h1 := nextP_le hk
  unfold bodyR at h
  split at h
  · rename_i ha
    have h2 := inR_lt (by omega) ha
    exact rulesR_in s _ _ _ (by omega) p h
  · simp only [Sum.inl.injEq] at h; omega
theorem tableR_in {s : ByteArray} {k : Nat} (hk : k ≤ s.size) : InAt s (tableR s k) := fun p h => by
  unfold tableR at h
  split at h
  · rename_i q hq
    simp only [Sum.inl.injEq] at h
    have := nameR_in hk q hq
    omega
  · rename_i x q hq
    have hb := nameR_bd hk hq
    split at h
    · rename_i q2 hq2
      simp only [Sum.inl.injEq] at h
      have := policyR_in hb.2.1 q2 hq2
      omega
    · rename_i c q2 hq2
      have hb2 := policyR_bd hb.2.1 hq2
      split at h
      · rename_i q3 hq3
        simp only [Sum.inl.injEq] at h
        have := columnsR_in hb2.1.2 q3 hq3
        omega
      · rename_i xs q3 hq3
        have hb3 := columnsR_bd hb2.1.2 hq3
        have h1 := nextP_le hb3.2
        unfold dropsR at h
        split at h
        · rename_i ha
          have h2 := inR_lt (by omega) ha
          split at h
          · rename_i q4 hq4
            simp only [Sum.inl.injEq] at h
            have := marksR_in (by omega) q4 hq4
            omega
          · rename_i d q4 hq4
            have hb4 := marksR_bd (by omega) hq4
            exact bodyR_in hb4.2 p h
        · exact bodyR_in h1 p h
theorem itemR_in {s : ByteArray} {k : Nat} (hk : k ≤ s.size) : InAt s (itemR s k) := fun p h => by
  have h1 := nextP_le hk
  have h2 := lowEnd_le h1
  unfold itemR at h
  split at h
  · exact inputR_in h2 p h
  split at h
  · exact tableR_in h2 p h
  · simp only [Sum.inl.injEq] at h; omega
theorem itemsR_in (s : ByteArray) : ∀ (f k : Nat) (xs : List PItem), k ≤ s.size → xs.length ≤ k → (∀ p, itemsR s f k xs = .inl p → p ≤ s.size) ∧ (∀ its, itemsR s f k xs = .inr its → its.length ≤ s.size)
  | 0, k, xs, hk, hx => ⟨fun p h => by simp only [itemsR, Sum.inl.injEq] at h; omega, fun its h => by cases h⟩
  | f + 1, k, xs, hk, hx => by
    have h1 := nextP_le hk
    have h2 := nextP_ge s k
    simp only [itemsR]
    split
    · exact ⟨fun p h => (by cases h), fun its h => by simp only [Sum.inr.injEq] at h; rw [← h]; omega⟩
    · split
      · rename_i q hq
        refine ⟨fun p h => ?_, fun its h => by cases h⟩
        simp only [Sum.inl.injEq] at h
        have := itemR_in h1 q hq
        omega
      · rename_i it q hq
        have hb := itemR_bd h1 hq
        exact itemsR_in s f q (xs ++ [it]) hb.2 (by simp; omega)
theorem checkL_le : ∀ (rest ahead : List PItem), (checkL ahead rest).1 ≤ ahead.length + rest.length
  | [], ahead => by simp [checkL]
  | it :: rest, ahead => by
    rw [checkL]
    split
    · have := checkL_le rest (ahead ++ [it]); simp at this ⊢; omega
    · simp
theorem planOf_place {s : ByteArray} {n : Nat} {e : Int} (h : planOf s = .inl (n, e)) : n ≤ s.size := by
  have hin := itemsR_in s (s.size + 1) 0 [] (by omega) (by simp)
  unfold planOf at h
  split at h
  · simp only [Sum.inl.injEq, Prod.mk.injEq] at h; omega
  split at h
  · rename_i p hp
    simp only [Sum.inl.injEq, Prod.mk.injEq] at h
    have := hin.1 p hp
    omega
  · rename_i its hp
    have h2 := hin.2 its hp
    split at h
    · cases h
    · simp only [Sum.inl.injEq, Prod.mk.injEq] at h
      have h3 : (checkR its).1 ≤ its.length := by
        unfold checkR
        split
        · simp
        · have := checkL_le its []; simpa using this
      omega
/-- The plain form is a plan's text, of the same plan. -/
theorem planOf_plain {s : ByteArray} {its : List PItem} (h : planOf s = .inr its) (hl : (planOut its).length ≤ 1000) : planOf ⟨(planOut its).toArray⟩ = .inr its := by
  have hok := planOf_ok h
  have hp := planR_plain hok.can
  have hsz : ¬ 1000 < (⟨(planOut its).toArray⟩ : ByteArray).size := by
    show ¬ 1000 < (planOut its).toArray.size
    rw [List.size_toArray]; omega
  have hck : (checkR its).2 = 0 := by
    unfold planOf at h
    split at h
    · cases h
    split at h
    · cases h
    rename_i its' hp'
    split at h
    · rename_i hz
      simp only [Sum.inr.injEq] at h
      rw [← h]; exact hz
    · cases h
  unfold planOf
  rw [if_neg hsz, hp]
  simp only
  rw [if_pos hck]
end Go.Proofs.YthnggjaecngbiaaGreatDoor
