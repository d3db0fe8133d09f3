import Derived.Test.YthnggjaecngbiaaDoorRdI
import Derived.Deep.RegionLaw
import Derived.Deep.AppendLies
namespace Go.Proofs.YthnggjaecngbiaaDoor
open Go.RowKit

theorem test_yes (b : Nat) (s : ByteArray) (k : Nat) (w : World) (hr : Rd 54 b s k w) (hs : s.size ≤ 1000) (hk : k ≤ s.size) {t : PTest} {q : Nat} (h : testR s k = .inr (t, q)) :
    Calls Tryd.prog 61 #[.pointer (some ⟨b, 0, none⟩)] w fun e w' => e = .returned (tv t) ∧ Moved 54 b s q w w' := by
  refine (test_any b s k w hr hs hk).mono ?_
  rintro e w' (⟨p, hd, _⟩ | ⟨t', q', hd, he, hm⟩)
  · rw [h] at hd; cases hd
  · rw [h] at hd
    simp only [Sum.inr.injEq, Prod.mk.injEq] at hd
    obtain ⟨rfl, rfl⟩ := hd
    exact ⟨he, hm⟩
theorem test_no (b : Nat) (s : ByteArray) (k : Nat) (w : World) (hr : Rd 54 b s k w) (hs : s.size ≤ 1000) (hk : k ≤ s.size) {p : Nat} (h : testR s k = .inl p) :
    Calls Tryd.prog 61 #[.pointer (some ⟨b, 0, none⟩)] w fun e w' => e = .panicked [{ v := .iface 36 (.agg #[.int .i64 (p : Int)]), recovered := false }] ∧ ∃ m, Moved 54 b s m w w' := by
  refine (test_any b s k w hr hs hk).mono ?_
  rintro e w' (⟨p', hd, he, m, hm⟩ | ⟨t', q', hd, _⟩)
  · rw [h] at hd
    simp only [Sum.inl.injEq] at hd
    subst hd
    exact ⟨he, m, hm⟩
  · rw [h] at hd; cases hd

def tcells (t : PTest) : List Value := [.int .i64 (t.nots : Int), .int .i64 t.kind, .int .i64 t.low, .int .i64 t.high]
def tsCells (ts : List PTest) : List Value := ts.flatMap tcells

structure PRule where
  tests : List PTest
  num : Int

/-- The tests behind the first one, the sign, the number and the end. -/
def ruleEnd (s : ByteArray) (k : Nat) (ts : List PTest) : Res PRule :=
  if inR s (nextP s k) 61 61 then
    match numberR s (nextP s k + 1) with
    | .inl p => .inl p
    | .inr (v, q) => if inR s (nextP s q) 59 59 then .inr (⟨ts, v⟩, nextP s q + 1) else .inl (nextP s q)
  else .inl (nextP s k)
def testsR (s : ByteArray) : Nat → Nat → List PTest → Res PRule
  | 0, k, _ => .inl k
  | f + 1, k, ts =>
    if inR s (nextP s k) 44 44 then
      match testR s (nextP s k + 1) with
      | .inl p => .inl p
      | .inr (t, q) => testsR s f q (ts ++ [t])
    else ruleEnd s k ts
def ruleR (s : ByteArray) (k : Nat) : Res PRule :=
  match testR s k with
  | .inl p => .inl p
  | .inr (t, q) => testsR s (s.size + 1 - q) q [t]

theorem owns_ne {w : World} {base : Nat} {e e' : TypeId} {size : Nat} {v : Value} {n N : Nat} {xs : List Value} {c : Array Value} (h : w.ownsRow base e size v n xs) (hN : w.heap[N]? = some (.cells c e')) (hne : e ≠ e') : v.ownBlock ≠ some N := by
  obtain ⟨h1, h2⟩ := h
  rcases h2 with ⟨rfl, _⟩ | ⟨g, cap, cur, rfl, hg, hh, r⟩
  · simp [Value.ownBlock]
  · intro e
    simp [Value.ownBlock] at e
    subst e
    rw [hh] at hN
    simp at hN
    exact hne hN.2

theorem wordTestR_bd {s : ByteArray} {k q : Nat} {t : PTest} (hk : k ≤ s.size) (h : wordTestR s k = .inr (t, q)) : k ≤ q ∧ q ≤ s.size := by
  have h1 := nextP_le hk
  have h2 := lowEnd_le h1
  have h3 := lowEnd_ge s (nextP s k)
  have h4 := nextP_ge s k
  unfold wordTestR at h
  split at h
  · simp only [Sum.inr.injEq, Prod.mk.injEq] at h; omega
  split at h
  · simp only [Sum.inr.injEq, Prod.mk.injEq] at h; omega
  · cases h
theorem numberTestR_bd {s : ByteArray} {k q : Nat} {t : PTest} (hk : k ≤ s.size) (h : numberTestR s k = .inr (t, q)) : k ≤ q ∧ q ≤ s.size := by
  unfold numberTestR at h
  split at h
  · cases h
  rename_i lo q1 hn
  have b1 := numberR_bd hk hn
  have h1 := nextP_le b1.2.2
  have h4 := nextP_ge s q1
  split at h
  · rename_i ha
    have h5 := inR_lt (by omega) ha
    split at h
    · rename_i hb
      have h6 := inR_lt (by omega) hb
      split at h
      · cases h
      · rename_i hi r hn2
        have b2 := numberR_bd (by omega) hn2
        simp only [Sum.inr.injEq, Prod.mk.injEq] at h
        omega
    · cases h
  · simp only [Sum.inr.injEq, Prod.mk.injEq] at h; omega
theorem withNum_bd {s : ByteArray} {k q : Nat} {t : PTest} {c : Int} (hk : k ≤ s.size) (h : withNum c (numberR s k) = .inr (t, q)) : k ≤ q ∧ q ≤ s.size := by
  cases hn : numberR s k with
  | inl p => rw [hn] at h; cases h
  | inr vq =>
    obtain ⟨v, q1⟩ := vq
    have b1 := numberR_bd hk hn
    rw [hn] at h
    simp only [withNum, Sum.inr.injEq, Prod.mk.injEq] at h
    omega
theorem bareTestR_bd {s : ByteArray} {k q : Nat} {t : PTest} (hk : k ≤ s.size) (h : bareTestR s k = .inr (t, q)) : k ≤ q ∧ q ≤ s.size := by
  have h1 := nextP_le hk
  have h4 := nextP_ge s k
  unfold bareTestR at h
  split at h
  · rename_i ha
    have := inR_lt (by omega) ha
    simp only [Sum.inr.injEq, Prod.mk.injEq] at h; omega
  split at h
  · rename_i ha
    have := inR_lt (by omega) ha
    have := withNum_bd (by omega) h; omega
  split at h
  · rename_i ha
    have := inR_lt (by omega) ha
    have := withNum_bd (by omega) h; omega
  split at h
  · have := wordTestR_bd h1 h; omega
  · have := numberTestR_bd h1 h; omega
theorem bangs_bd (s : ByteArray) : ∀ (f k n : Nat), k ≤ s.size → k ≤ (bangs s f k n).2 ∧ (bangs s f k n).2 ≤ s.size
  | 0, k, n, hk => ⟨nextP_ge s k, nextP_le hk⟩
  | f + 1, k, n, hk => by
    have h1 := nextP_le hk
    have h4 := nextP_ge s k
    simp only [bangs]
    split
    · rename_i ha
      have h5 := inR_lt (by omega) ha
      have := bangs_bd s f (nextP s k + 1) (n + 1) (by omega)
      omega
    · exact ⟨h4, h1⟩
theorem testR_bd {s : ByteArray} {k q : Nat} {t : PTest} (hk : k ≤ s.size) (h : testR s k = .inr (t, q)) : k ≤ q ∧ q ≤ s.size := by
  have hb := bangs_bd s (s.size - k) k 0 hk
  unfold testR at h
  split at h
  · cases h
  · rename_i t' q' hn
    have := bareTestR_bd hb.2 hn
    simp only [Sum.inr.injEq, Prod.mk.injEq] at h
    omega

end Go.Proofs.YthnggjaecngbiaaDoor
