import Derived.Test.YthnggjaecngbiaaGreatDoorFaB
namespace Go.Proofs.YthnggjaecngbiaaGreatDoor
open Go.RowKit

/-- As the reader makes them. -/
structure CanT (t : PTest) : Prop where
  kind : 0 ≤ t.kind ∧ t.kind ≤ 6
  low : -9999999 ≤ t.low ∧ t.low ≤ 9999999
  high : -9999999 ≤ t.high ∧ t.high ≤ 9999999
  low0 : t.kind ≤ 2 → t.low = 0
  high0 : t.kind ≠ 4 → t.high = 0
structure CanR (r : PRule) : Prop where
  ne : r.tests ≠ []
  tests : ∀ t ∈ r.tests, CanT t
  num : -9999999 ≤ r.num ∧ r.num ≤ 9999999
structure CanTab (it : PItem) : Prop where
  isT : it.isT = true
  name : NameOK it.name
  marks : it.marks = 0
  pol : isPol it.policy = true
  ne : it.cols ≠ []
  cols : ∀ c ∈ it.cols, NameOK c
  drops : it.drops ≤ 7
  rules : ∀ r ∈ it.rules, CanR r
structure CanIn (it : PItem) : Prop where
  isT : it.isT = false
  name : NameOK it.name
  marks : it.marks ≤ 7
  pol : it.policy = 0
  cols : it.cols = []
  drops : it.drops = 0
  rules : it.rules = []
def CanI (it : PItem) : Prop := CanIn it ∨ CanTab it

/-- What may stand behind a test or a number. -/
def After (c : Int) : Prop := c = 44 ∨ c = 61 ∨ c = 59
theorem After.dig {c : Int} (h : After c) : isDig c = false := by unfold After at h; unfold isDig; simp; omega
theorem After.low {c : Int} (h : After c) : isLow c = false := by unfold After at h; unfold isLow; simp; omega
theorem After.blank {c : Int} (h : After c) : isBlank c = false := by unfold After at h; unfold isBlank; simp; omega

theorem itoa_head (n : Int) (b : List UInt8) : headB (Lib.itoa n ++ b) = 45 ∨ isDig (headB (Lib.itoa n ++ b)) = true := by
  unfold Lib.itoa
  split
  · left; rfl
  · right; exact dd_head _ _
theorem itoa_rng {s : ByteArray} {k : Nat} {n : Int} {b : List UInt8} (h : Tl s k (Lib.itoa n ++ b)) : nextP s k = k ∧ (∀ lo hi : Int, 57 < lo → inR s k lo hi = false) ∧ inR s k 33 33 = false := by
  have h1 := itoa_head n b
  have h2 : headB (Lib.itoa n ++ b) = 45 ∨ (48 ≤ headB (Lib.itoa n ++ b) ∧ headB (Lib.itoa n ++ b) ≤ 57) := by
    rcases h1 with h1 | h1
    · exact Or.inl h1
    · right; unfold isDig at h1; simpa using h1
  refine ⟨h.next (by unfold isBlank; simp; omega), fun lo hi hl => ?_, ?_⟩
  · rw [h.rng]; simp; omega
  · rw [h.rng]; simp; omega

theorem Tl.bare {s : ByteArray} {k : Nat} {t : PTest} {b : List UInt8} (h : Tl s k (bareOut t ++ b)) (ht : CanT t) (hb : After (headB b)) : bareTestR s k = .inr ({ t with nots := 0 }, k + (bareOut t).length) ∧ inR s k 33 33 = false ∧ nextP s k = k := by
  have hk := ht.kind
  have hl0 := ht.low0
  have hh0 := ht.high0
  have hl := ht.low
  have hh := ht.high
  obtain ⟨t0, t1, t2, t3⟩ := t
  simp only at hk hl0 hh0 hl hh
  rcases (by omega : t1 = 0 ∨ t1 = 1 ∨ t1 = 2 ∨ t1 = 3 ∨ t1 = 4 ∨ t1 = 5 ∨ t1 = 6) with e | e | e | e | e | e | e
  all_goals
    subst e
    simp [bareOut] at h hl0 hh0 ⊢
  · subst hl0 hh0
    have h1 : nextP s k = k := h.next rfl
    have h2 : inR s k 95 95 = true := h.rng _ _
    have h3 : inR s k 33 33 = false := h.rng _ _
    unfold bareTestR
    rw [h1, h2]
    exact ⟨rfl, h3, rfl⟩
  · subst hl0 hh0
    have h1 : nextP s k = k := h.next rfl
    have h2 : inR s k 95 95 = false := h.rng _ _
    have h4 : inR s k 60 60 = false := h.rng _ _
    have h5 : inR s k 62 62 = false := h.rng _ _
    have h6 : inR s k 97 122 = true := h.rng _ _
    have h3 : inR s k 33 33 = false := h.rng _ _
    obtain ⟨h7, h8⟩ := Tl.low (x := ⟨#[110, 111, 110, 101]⟩) h (by decide) hb.low
    unfold bareTestR wordTestR
    rw [h1, h2, h4, h5, h6, h1, h8, h7]
    exact ⟨by rw [ByteArray.toList_eq]; rfl, h3, rfl⟩
  · subst hl0 hh0
    have h1 : nextP s k = k := h.next rfl
    have h2 : inR s k 95 95 = false := h.rng _ _
    have h4 : inR s k 60 60 = false := h.rng _ _
    have h5 : inR s k 62 62 = false := h.rng _ _
    have h6 : inR s k 97 122 = true := h.rng _ _
    have h3 : inR s k 33 33 = false := h.rng _ _
    obtain ⟨h7, h8⟩ := Tl.low (x := ⟨#[99, 108, 97, 115, 104]⟩) h (by decide) hb.low
    unfold bareTestR wordTestR
    rw [h1, h2, h4, h5, h6, h1, h8, h7]
    exact ⟨by rw [ByteArray.toList_eq]; rfl, h3, rfl⟩
  · subst hh0
    obtain ⟨h1, h2, h3⟩ := itoa_rng h
    have h4 := h.num hl.1 hl.2 hb.dig
    have h5 := h.app
    have h6 := h5.next hb.blank
    have h7 : inR s (k + (Lib.itoa t2).length) 46 46 = false := by rw [h5.rng]; unfold After at hb; simp; omega
    unfold bareTestR
    rw [h1, h2 95 95 (by omega), h2 60 60 (by omega), h2 62 62 (by omega), h2 97 122 (by omega)]
    simp only [numberTestR, h4, h6, h7]
    exact ⟨rfl, h3, trivial⟩
  · obtain ⟨h1, h2, h3⟩ := itoa_rng h
    have h4 := h.num hl.1 hl.2 rfl
    have h5 := h.app
    have h6 := h5.next rfl
    have h7 : inR s (k + (Lib.itoa t2).length) 46 46 = true := h5.rng _ _
    have h8 : inR s (k + (Lib.itoa t2).length + 1) 46 46 = true := h5.cons.rng _ _
    have h9 := h5.cons.cons.num hh.1 hh.2 hb.dig
    unfold bareTestR
    rw [h1, h2 95 95 (by omega), h2 60 60 (by omega), h2 62 62 (by omega), h2 97 122 (by omega)]
    simp only [numberTestR, h4, h6, h7, h8, h9, h3]
    simp
    omega
  · subst hh0
    have h1 : nextP s k = k := h.next rfl
    have h2 : inR s k 95 95 = false := h.rng _ _
    have h4 : inR s k 60 60 = true := h.rng _ _
    have h3 : inR s k 33 33 = false := h.rng _ _
    have h9 := h.cons.num hl.1 hl.2 hb.dig
    unfold bareTestR
    rw [h1, h2, h4]
    simp only [h9, h3, withNum]
    simp
    omega
  · subst hh0
    have h1 : nextP s k = k := h.next rfl
    have h2 : inR s k 95 95 = false := h.rng _ _
    have h4 : inR s k 60 60 = false := h.rng _ _
    have h5 : inR s k 62 62 = true := h.rng _ _
    have h3 : inR s k 33 33 = false := h.rng _ _
    have h9 := h.cons.num hl.1 hl.2 hb.dig
    unfold bareTestR
    rw [h1, h2, h4, h5]
    simp only [h9, h3, withNum]
    simp
    omega

theorem bare_len (t : PTest) : 1 ≤ (bareOut t).length := by
  have hi : ∀ n : Int, 1 ≤ (Lib.itoa n).length := fun n => by
    unfold Lib.itoa
    split
    · simp
    · rw [Lib.decDigits_length]; exact Lib.nDigits_pos _
  unfold bareOut
  have := hi t.low
  repeat' split
  all_goals simp
  all_goals omega
theorem bangs_bare {s : ByteArray} {k n : Nat} (hn : nextP s k = k) (hb : inR s k 33 33 = false) : ∀ f, bangs s f k n = (n, k)
  | 0 => by rw [bangs, hn]
  | f + 1 => by rw [bangs, hn, hb]; rfl
theorem Tl.bangs {s : ByteArray} : ∀ (m : Nat) {k n f : Nat} {t : PTest} {b : List UInt8}, Tl s k (Lib.repeatL [33] m ++ (bareOut t ++ b)) → CanT t → After (headB b) → m ≤ f → Go.Proofs.YthnggjaecngbiaaGreatDoor.bangs s f k n = (n + m, k + m)
  | 0, k, n, f, t, b, h, ht, hb, hf => by
    obtain ⟨_, h2, h3⟩ := Tl.bare (t := t) h ht hb
    exact bangs_bare h3 h2 f
  | m + 1, k, n, f, t, b, h, ht, hb, hf => by
    obtain ⟨f, rfl⟩ : ∃ g, f = g + 1 := ⟨f - 1, by omega⟩
    have h1 : nextP s k = k := Tl.next h rfl
    have h2 : inR s k 33 33 = true := Tl.rng h _ _
    rw [Go.Proofs.YthnggjaecngbiaaGreatDoor.bangs, h1, h2, if_pos rfl, Tl.bangs m (Tl.cons h) ht hb (by omega)]
    simp; omega
theorem Tl.test {s : ByteArray} {k : Nat} {t : PTest} {b : List UInt8} (h : Tl s k (testOut t ++ b)) (ht : CanT t) (hb : After (headB b)) : testR s k = .inr (t, k + (testOut t).length) := by
  unfold testOut at h ⊢
  rw [List.append_assoc] at h
  have hl := h.size
  have hr : (Lib.repeatL [33] t.nots).length = t.nots := by rw [Lib.repeatL_length]; simp
  have h1 := h.app
  rw [hr] at h1
  have h2 := (Tl.bare (t := t) h1 ht hb).1
  unfold testR
  rw [Tl.bangs t.nots (n := 0) h ht hb (by simp [hr] at hl; omega)]
  simp only [h2]
  simp [hr]
  omega

theorem testOut_ge (t : PTest) : 1 ≤ (testOut t).length := by
  have := bare_len t
  unfold testOut; simp; omega
theorem tOuts_head {c : UInt8} (ts : List PTest) (b : List UInt8) (hc : After (c.toNat : Int)) : After (headB (tOuts true ts ++ c :: b)) := by
  cases ts with
  | nil => exact hc
  | cons t ts => left; rfl
theorem Tl.tests {s : ByteArray} : ∀ (ts : List PTest) {k f : Nat} {acc : List PTest} {n : Int} {b : List UInt8}, Tl s k (tOuts true ts ++ ([61] ++ Lib.itoa n ++ [59] ++ b)) → (∀ t ∈ ts, CanT t) → -9999999 ≤ n → n ≤ 9999999 → ts.length < f → testsR s f k acc = .inr (⟨acc ++ ts, n⟩, k + (tOuts true ts ++ ([61] ++ Lib.itoa n ++ [59])).length)
  | [], k, f, acc, n, b, h, ht, h1, h2, hf => by
    obtain ⟨f, rfl⟩ : ∃ g, f = g + 1 := ⟨f - 1, by omega⟩
    simp [tOuts] at h ⊢
    have e1 : nextP s k = k := h.next rfl
    have e2 : inR s k 44 44 = false := h.rng _ _
    have e3 : inR s k 61 61 = true := h.rng _ _
    have e4 := h.cons.num h1 h2 rfl
    have e5 := h.cons.app
    have e6 := e5.next rfl
    have e7 : inR s (k + 1 + (Lib.itoa n).length) 59 59 = true := e5.rng _ _
    rw [testsR, e1, e2]
    simp [ruleEnd, e1, e3, e4, e6, e7]
    omega
  | t :: ts, k, f, acc, n, b, h, ht, h1, h2, hf => by
    obtain ⟨f, rfl⟩ : ∃ g, f = g + 1 := ⟨f - 1, by omega⟩
    simp [tOuts] at h hf ⊢
    have e1 : nextP s k = k := h.next rfl
    have e2 : inR s k 44 44 = true := h.rng _ _
    have e3 := h.cons.test (ht t (by simp)) (tOuts_head (c := 61) ts _ (by right; left; rfl))
    have e4 := h.cons.app
    have e5 := Tl.tests ts (f := f) (acc := acc ++ [t]) (n := n) (b := b) (k := k + 1 + (testOut t).length) (by simpa using e4) (fun x hx => ht x (by simp [hx])) h1 h2 (by omega)
    rw [testsR, e1, e2, if_pos rfl, e3]
    simp only [e5]
    simp
    omega
theorem tOuts_ge : ∀ (ts : List PTest), ts.length ≤ (tOuts true ts).length
  | [] => by simp
  | t :: ts => by
    have := tOuts_ge ts
    simp [tOuts]; omega
theorem Tl.rule {s : ByteArray} {k : Nat} {r : PRule} {b : List UInt8} (h : Tl s k (ruleOut r ++ b)) (hr : CanR r) : ruleR s k = .inr (r, k + (ruleOut r).length) := by
  have hl := h.size
  obtain ⟨ts, n⟩ := r
  have h1 := hr.ne
  have h2 := hr.tests
  have h3 := hr.num
  cases ts with
  | nil => exact absurd rfl h1
  | cons t ts =>
    simp [ruleOut, tOuts] at h hl h2 h3 ⊢
    have e3 := h.test h2.1 (tOuts_head (c := 61) ts _ (by right; left; rfl))
    have e4 := h.app
    have hq := tOuts_ge ts
    have e5 := Tl.tests ts (f := s.size + 1 - (k + (testOut t).length)) (acc := [t]) (n := n) (b := b) (k := k + (testOut t).length) (by simpa using e4) h2.2 h3.1 h3.2 (by omega)
    unfold ruleR
    rw [e3]
    simp only [e5]
    simp
    omega
theorem ruleOut_head {r : PRule} (hr : CanR r) (b : List UInt8) : isBlank (headB (ruleOut r ++ b)) = false ∧ headB (ruleOut r ++ b) ≠ 125 := by
  obtain ⟨ts, n⟩ := r
  have h1 := hr.ne
  have h2 := hr.tests
  cases ts with
  | nil => exact absurd rfl h1
  | cons t ts =>
    simp only [ruleOut, tOuts, testOut]
    cases t.nots with
    | succ m => exact ⟨rfl, by simp [Lib.repeatL, headB]⟩
    | zero =>
      simp only [Lib.repeatL, List.nil_append, List.append_assoc]
      have hi : ∀ (m : Int) (b : List UInt8), isBlank (headB (Lib.itoa m ++ b)) = false ∧ headB (Lib.itoa m ++ b) ≠ 125 := fun m b => by
        rcases itoa_head m b with h | h
        · rw [h]; exact ⟨rfl, by decide⟩
        · refine ⟨dig_not_blank h, ?_⟩
          unfold isDig at h; simp at h; omega
      unfold bareOut
      repeat' split
      all_goals first | exact ⟨rfl, by simp [headB]⟩ | exact hi _ _ | (simp only [List.append_assoc]; exact hi _ _)
theorem Tl.rules {s : ByteArray} : ∀ (rs : List PRule) {k f : Nat} {it : PItem} {b : List UInt8}, Tl s k (rs.flatMap ruleOut ++ (125 :: b)) → (∀ r ∈ rs, CanR r) → rs.length < f → rulesR s f k it = .inr ({ it with rules := it.rules ++ rs }, k + (rs.flatMap ruleOut).length + 1)
  | [], k, f, it, b, h, hr, hf => by
    obtain ⟨f, rfl⟩ : ∃ g, f = g + 1 := ⟨f - 1, by omega⟩
    simp at h ⊢
    have e1 : nextP s k = k := h.next rfl
    have e2 : inR s k 125 125 = true := h.rng _ _
    rw [rulesR, e1, e2]
    rfl
  | r :: rs, k, f, it, b, h, hr, hf => by
    obtain ⟨f, rfl⟩ : ∃ g, f = g + 1 := ⟨f - 1, by omega⟩
    simp only [List.flatMap_cons, List.append_assoc] at h
    simp at hf
    have hh := ruleOut_head (hr r (by simp)) (rs.flatMap ruleOut ++ 125 :: b)
    have e1 : nextP s k = k := h.next hh.1
    have e2 : inR s k 125 125 = false := by rw [h.rng]; simp; omega
    have e3 := h.rule (hr r (by simp))
    have e5 := Tl.rules rs (f := f) (it := { it with rules := it.rules ++ [r] }) (b := b) h.app (fun x hx => hr x (by simp [hx])) (by omega)
    rw [rulesR, e1, e2, if_neg (by simp), e3]
    simp only [e5]
    simp
    omega
end Go.Proofs.YthnggjaecngbiaaGreatDoor
