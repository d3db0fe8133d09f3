import Derived.Test.YthnggjaecngbiaaGreatDoorRtC
import Derived.Test.YthnggjaecngbiaaGreatDoorWfA
import Derived.Test.YthnggjaecngbiaaGreatDoorPlE
namespace Go.Proofs.YthnggjaecngbiaaGreatDoor
open Go.RowKit

theorem skipTo_all (p : Int → Bool) (s : ByteArray) : ∀ (f k j : Nat), k ≤ j → j < skipTo p s f k → p (byteAt s j) = true
  | 0, k, j, h1, h2 => by rw [skipTo] at h2; omega
  | f + 1, k, j, h1, h2 => by
    rw [skipTo] at h2
    split at h2
    · rename_i hp
      by_cases he : j = k
      · subst he; exact hp
      · exact skipTo_all p s f (k + 1) j (by omega) h2
    · omega
theorem nameR_can {s : ByteArray} {k q : Nat} {x : ByteArray} (hk : k ≤ s.size) (h : nameR s k = .inr (x, q)) : NameOK x := by
  unfold nameR at h
  split at h
  · rename_i hn
    simp only [Sum.inr.injEq, Prod.mk.injEq] at h
    rw [h.1] at hn
    refine ⟨hn, ?_⟩
    rw [← h.1]
    have hp := nextP_le hk
    intro c hc
    rw [ByteArray.data_extract, Array.toList_extract, List.extract_eq_take_drop] at hc
    obtain ⟨i, hi, rfl⟩ := List.mem_iff_getElem.1 hc
    have hi' := hi
    simp only [List.length_take, List.length_drop] at hi'
    have hl := skipTo_all isLow s (s.size - nextP s k) (nextP s k) (nextP s k + i) (by omega) (by unfold lowEnd at hi'; omega)
    have hlt : nextP s k + i < s.size := by have := lowEnd_le hp; omega
    rw [byteAt_in hlt] at hl
    have : (List.take (lowEnd s (nextP s k) - nextP s k) (List.drop (nextP s k) s.data.toList))[i] = s[nextP s k + i] := by
      rw [List.getElem_take, List.getElem_drop]; rfl
    rw [this]; exact hl
  · cases h
theorem policyR_can {s : ByteArray} {k q : Nat} {v : Int} (h : policyR s k = .inr (v, q)) : isPol v = true := by
  unfold policyR at h
  split at h
  · rename_i hp
    simp only [Sum.inr.injEq, Prod.mk.injEq] at h
    rw [← h.1]; exact hp
  · cases h
theorem numberTestR_can {s : ByteArray} {k q : Nat} {t : PTest} (hk : k ≤ s.size) (h : numberTestR s k = .inr (t, q)) : CanT t := by
  unfold numberTestR at h
  split at h
  · cases h
  rename_i lo q1 hn
  have b1 := numberR_bd hk hn
  have h1 := nextP_le b1.2.2
  split at h
  · rename_i ha
    have h5 := inR_lt (by omega) ha
    split at h
    · rename_i hb
      have h6 := inR_lt (by omega) hb
      split at h
      · cases h
      · rename_i hi r hn2
        have b2 := numberR_bd (by omega) hn2
        simp only [Sum.inr.injEq, Prod.mk.injEq] at h
        rw [← h.1]
        exact ⟨by simp, b1.1, b2.1, by simp, by simp⟩
    · cases h
  · simp only [Sum.inr.injEq, Prod.mk.injEq] at h
    rw [← h.1]
    exact ⟨by simp, b1.1, by simp, by simp, by simp⟩
theorem wordTestR_can {s : ByteArray} {k q : Nat} {t : PTest} (h : wordTestR s k = .inr (t, q)) : CanT t := by
  unfold wordTestR at h
  split at h
  · simp only [Sum.inr.injEq, Prod.mk.injEq] at h
    rw [← h.1]; exact ⟨by simp, by simp, by simp, by simp, by simp⟩
  split at h
  · simp only [Sum.inr.injEq, Prod.mk.injEq] at h
    rw [← h.1]; exact ⟨by simp, by simp, by simp, by simp, by simp⟩
  · cases h
theorem withNum_can {s : ByteArray} {k q : Nat} {t : PTest} {c : Int} (hc : 5 ≤ c ∧ c ≤ 6) (hk : k ≤ s.size) (h : withNum c (numberR s k) = .inr (t, q)) : CanT t := by
  cases hn : numberR s k with
  | inl p => rw [hn] at h; cases h
  | inr vq =>
    obtain ⟨v, q1⟩ := vq
    have b1 := numberR_bd hk hn
    rw [hn] at h
    simp only [withNum, Sum.inr.injEq, Prod.mk.injEq] at h
    rw [← h.1]; exact ⟨by simp only; omega, b1.1, by simp, by simp only; omega, by simp⟩
theorem bareTestR_can {s : ByteArray} {k q : Nat} {t : PTest} (hk : k ≤ s.size) (h : bareTestR s k = .inr (t, q)) : CanT t := by
  have h1 := nextP_le hk
  unfold bareTestR at h
  split at h
  · simp only [Sum.inr.injEq, Prod.mk.injEq] at h
    rw [← h.1]; exact ⟨by simp, by simp, by simp, by simp, by simp⟩
  split at h
  · rename_i ha
    have := inR_lt (by omega) ha
    exact withNum_can (by omega) (by omega) h
  split at h
  · rename_i ha
    have := inR_lt (by omega) ha
    exact withNum_can (by omega) (by omega) h
  split at h
  · exact wordTestR_can h
  · exact numberTestR_can h1 h
theorem testR_can {s : ByteArray} {k q : Nat} {t : PTest} (hk : k ≤ s.size) (h : testR s k = .inr (t, q)) : CanT t := by
  have hb := bangs_bd s (s.size - k) k 0 hk
  unfold testR at h
  split at h
  · cases h
  · rename_i t' q' hn
    have := bareTestR_can hb.2 hn
    simp only [Sum.inr.injEq, Prod.mk.injEq] at h
    rw [← h.1]
    exact ⟨this.kind, this.low, this.high, this.low0, this.high0⟩
theorem testsR_can (s : ByteArray) : ∀ (f k : Nat) (ts : List PTest) (r : PRule) (q : Nat), k ≤ s.size → ts ≠ [] → (∀ t ∈ ts, CanT t) → testsR s f k ts = .inr (r, q) → CanR r
  | 0, k, ts, r, q, hk, _, _, h => by cases h
  | f + 1, k, ts, r, q, hk, hl, hw, h => by
    have h1 := nextP_le hk
    have h4 := nextP_ge s k
    simp only [testsR] at h
    split at h
    · rename_i ha
      have h5 := inR_lt (by omega) ha
      split at h
      · cases h
      · rename_i t q' hn
        have b1 := testR_bd (by omega) hn
        have w1 := testR_can (by omega) hn
        refine testsR_can s f q' (ts ++ [t]) r q b1.2 (by simp) ?_ h
        intro x hx
        simp at hx
        rcases hx with hx | rfl
        · exact hw x hx
        · exact w1
    · unfold ruleEnd at h
      split at h
      · rename_i ha
        have h5 := inR_lt (by omega) ha
        split at h
        · cases h
        · rename_i v q' hn
          have b1 := numberR_bd (by omega) hn
          split at h
          · simp only [Sum.inr.injEq, Prod.mk.injEq] at h
            rw [← h.1]
            exact ⟨hl, hw, b1.1⟩
          · cases h
      · cases h
theorem ruleR_can {s : ByteArray} {k q : Nat} {r : PRule} (hk : k ≤ s.size) (h : ruleR s k = .inr (r, q)) : CanR r := by
  unfold ruleR at h
  split at h
  · cases h
  · rename_i t q' hn
    have b1 := testR_bd hk hn
    exact testsR_can s _ q' [t] r q b1.2 (by simp) (by intro x hx; simp at hx; subst hx; exact testR_can hk hn) h
theorem rulesR_can (s : ByteArray) : ∀ (f k : Nat) (i it : PItem) (q : Nat), k ≤ s.size → CanTab i → rulesR s f k i = .inr (it, q) → CanTab it
  | 0, k, i, it, q, hk, _, h => by cases h
  | f + 1, k, i, it, q, hk, hw, h => by
    have h1 := nextP_le hk
    have h4 := nextP_ge s k
    simp only [rulesR] at h
    split at h
    · simp only [Sum.inr.injEq, Prod.mk.injEq] at h
      rw [← h.1]; exact hw
    · split at h
      · cases h
      · rename_i r q' hn
        have b1 := ruleR_bd h1 hn
        have w1 := ruleR_can h1 hn
        refine rulesR_can s f q' { i with rules := i.rules ++ [r] } it q b1.2 ⟨hw.isT, hw.name, hw.marks, hw.pol, hw.ne, hw.cols, hw.drops, ?_⟩ h
        intro x hx
        simp at hx
        rcases hx with hx | rfl
        · exact hw.rules x hx
        · exact w1
theorem colsR_can (s : ByteArray) : ∀ (f k : Nat) (xs ys : List ByteArray) (q : Nat), k ≤ s.size → xs ≠ [] → (∀ c ∈ xs, NameOK c) → colsR s f k xs = .inr (ys, q) → ys ≠ [] ∧ ∀ c ∈ ys, NameOK c
  | 0, k, xs, ys, q, hk, _, _, h => by cases h
  | f + 1, k, xs, ys, q, hk, hl, hw, h => by
    have h1 := nextP_le hk
    have h4 := nextP_ge s k
    simp only [colsR] at h
    split at h
    · rename_i ha
      have h5 := inR_lt (by omega) ha
      split at h
      · cases h
      · rename_i x q' hn
        have b1 := nameR_bd (by omega) hn
        have b2 := nameR_can (by omega) hn
        refine colsR_can s f q' (xs ++ [x]) ys q b1.2.1 (by simp) ?_ h
        intro y hy
        simp at hy
        rcases hy with hy | rfl
        · exact hw y hy
        · exact b2
    · split at h
      · simp only [Sum.inr.injEq, Prod.mk.injEq] at h
        rw [← h.1]; exact ⟨hl, hw⟩
      · cases h
theorem columnsR_can {s : ByteArray} {k q : Nat} {xs : List ByteArray} (h : columnsR s k = .inr (xs, q)) : xs ≠ [] ∧ ∀ c ∈ xs, NameOK c := by
  unfold columnsR at h
  split at h
  · rename_i ha
    have h5 := inR_lt (by omega) ha
    split at h
    · cases h
    · rename_i x q' hn
      have b1 := nameR_bd (by omega) hn
      have b2 := nameR_can (by omega) hn
      exact colsR_can s _ q' [x] xs q b1.2.1 (by simp) (by intro y hy; simp at hy; subst hy; exact b2) h
  · cases h
theorem inputR_can {s : ByteArray} {k q : Nat} {it : PItem} (hk : k ≤ s.size) (h : inputR s k = .inr (it, q)) : CanIn it := by
  unfold inputR at h
  split at h
  · cases h
  rename_i x q1 hn
  have b1 := nameR_bd hk hn
  have b0 := nameR_can hk hn
  have h1 := nextP_le b1.2.1
  have fin : ∀ (r m : Nat), m ≤ 7 → endIn s r ⟨x, false, m, 0, [], 0, []⟩ = .inr (it, q) → CanIn it := fun r m hm h => by
    unfold endIn at h
    split at h
    · simp only [Sum.inr.injEq, Prod.mk.injEq] at h
      rw [← h.1]; exact ⟨rfl, b0, hm, rfl, rfl, rfl, rfl⟩
    · cases h
  split at h
  · rename_i ha
    have h3 := inR_lt (by omega) ha
    split at h
    · cases h
    · rename_i v r hm
      have b2 := marksR_bd (by omega) hm
      exact fin r v b2.1.2.2 h
  · exact fin _ 0 (by omega) h
theorem tableR_can {s : ByteArray} {k q : Nat} {it : PItem} (hk : k ≤ s.size) (h : tableR s k = .inr (it, q)) : CanTab it := by
  unfold tableR at h
  split at h
  · cases h
  rename_i x q1 hn
  have b1 := nameR_bd hk hn
  have b0 := nameR_can hk hn
  split at h
  · cases h
  rename_i c q2 hp
  have b2 := policyR_bd b1.2.1 hp
  have p2 := policyR_can hp
  split at h
  · cases h
  rename_i xs q3 hc
  have b3 := columnsR_bd b2.1.2 hc
  have w3 := columnsR_can hc
  have h1 := nextP_le b3.2
  have fin : ∀ (r d : Nat), r ≤ s.size → d ≤ 7 → bodyR s r ⟨x, true, 0, c, xs, d, []⟩ = .inr (it, q) → CanTab it := fun r d hr hd h => by
    unfold bodyR at h
    split at h
    · rename_i hc
      have := nextP_le hr
      have := inR_lt (by omega) hc
      exact rulesR_can s _ _ _ _ _ (by omega) ⟨rfl, b0, rfl, p2, w3.1, w3.2, hd, by simp⟩ h
    · cases h
  unfold dropsR at h
  split at h
  · rename_i ha
    have h3 := inR_lt (by omega) ha
    split at h
    · cases h
    · rename_i v r hm
      have b4 := marksR_bd (by omega) hm
      exact fin r v b4.2 b4.1.2.2 h
  · exact fin _ 0 h1 (by omega) h
theorem itemR_can {s : ByteArray} {k q : Nat} {it : PItem} (hk : k ≤ s.size) (h : itemR s k = .inr (it, q)) : CanI it := by
  have hp := nextP_le hk
  have hq := lowEnd_le hp
  unfold itemR at h
  split at h
  · exact Or.inl (inputR_can hq h)
  split at h
  · exact Or.inr (tableR_can hq h)
  · cases h
theorem itemsR_can (s : ByteArray) : ∀ (f k : Nat) (xs its : List PItem), k ≤ s.size → (∀ i ∈ xs, CanI i) → itemsR s f k xs = .inr its → ∀ i ∈ its, CanI i
  | 0, k, xs, its, hk, _, h => by cases h
  | f + 1, k, xs, its, hk, hw, h => by
    have h1 := nextP_le hk
    have h4 := nextP_ge s k
    simp only [itemsR] at h
    split at h
    · simp only [Sum.inr.injEq] at h
      rw [← h]; exact hw
    · split at h
      · cases h
      · rename_i it q hn
        have b1 := itemR_bd h1 hn
        refine itemsR_can s f q (xs ++ [it]) its b1.2 ?_ h
        intro y hy
        simp at hy
        rcases hy with hy | rfl
        · exact hw y hy
        · exact itemR_can h1 hn
theorem planR_can {s : ByteArray} {its : List PItem} (h : planR s = .inr its) : ∀ i ∈ its, CanI i :=
  itemsR_can s _ 0 [] its (by omega) (by simp) h

end Go.Proofs.YthnggjaecngbiaaGreatDoor

namespace Go.Proofs.YthnggjaecngbiaaGreatDoor
open Go.RowKit

/-- A value. -/
structure PVal where
  kind : Int
  n : Int
deriving DecidableEq
def PVal.zero : PVal := ⟨0, 0⟩
def vcells (v : PVal) : List Value := [.int .i64 v.kind, .int .i64 v.n]
def vv (v : PVal) : Value := .agg #[.int .i64 v.kind, .int .i64 v.n]

/-- Does the value (kind, number) meet the test, the signs ahead of it aside? -/
def bareMeets (t : PTest) (k n : Int) : Bool :=
  decide (t.kind = 0) || (decide (t.kind = 1) && decide (k = 1)) || (decide (t.kind = 2) && decide (k = 2)) ||
  (decide (k = 0) && ((decide (t.kind = 3) && decide (n = t.low)) || (decide (t.kind = 4) && decide (t.low ≤ n) && decide (n ≤ t.high)) || (decide (t.kind = 5) && decide (n < t.low)) || (decide (t.kind = 6) && decide (t.low < n))))
def meetsP (t : PTest) (k n : Int) : Bool := bareMeets t k n != decide (t.nots % 2 = 1)

/-- Are the first j tests met? -/
def ruleTo (ts : List PTest) (vs : List PVal) (j : Nat) : Bool := ((ts.zip vs).take j).all fun x => meetsP x.1 x.2.kind x.2.n
def ruleMet (ts : List PTest) (vs : List PVal) : Bool := (ts.zip vs).all fun x => meetsP x.1 x.2.kind x.2.n
def metTo (rs : List PRule) (vs : List PVal) (j : Nat) : List Nat := (List.range j).filter fun i => match rs[i]? with | some r => ruleMet r.tests vs | none => false
def metP (rs : List PRule) (vs : List PVal) : List Nat := metTo rs vs rs.length
def numOf (rs : List PRule) (i : Nat) : Int := match rs[i]? with | some r => r.num | none => 0
def numsOf (rs : List PRule) (l : List Nat) : List Int := l.map (numOf rs)

theorem metTo_succ (rs : List PRule) (vs : List PVal) (j : Nat) (h : j < rs.length) : metTo rs vs (j + 1) = metTo rs vs j ++ (if ruleMet rs[j].tests vs then [j] else []) := by
  unfold metTo
  rw [List.range_succ, List.filter_append]
  congr 1
  simp only [List.filter_cons, List.filter_nil, List.getElem?_eq_getElem h]
theorem metTo_lt {rs : List PRule} {vs : List PVal} {j : Nat} (hj : j ≤ rs.length) : ∀ i ∈ metTo rs vs j, i < rs.length := fun i hi => by
  unfold metTo at hi
  have := List.mem_range.1 (List.mem_filter.1 hi).1
  omega
theorem metTo_len (rs : List PRule) (vs : List PVal) (j : Nat) : (metTo rs vs j).length ≤ j := by
  unfold metTo
  have := List.length_filter_le (fun i => match rs[i]? with | some r => ruleMet r.tests vs | none => false) (List.range j)
  simpa using this

def sumL : List Int → Int
  | [] => 0
  | n :: l => n + sumL l
def maxL : List Int → Int
  | [] => 0
  | n :: l => l.foldl max n
def decideP (pol : Int) (ns : List Int) : PVal :=
  if pol = 83 then ⟨0, ns.foldl (· + ·) 0⟩
  else if pol = 78 then ⟨0, ns.length⟩
  else match ns with
    | [] => ⟨1, 0⟩
    | n :: l => if pol = 80 then ⟨0, l.foldl max n⟩ else if pol = 85 ∧ l ≠ [] then ⟨2, 0⟩ else ⟨0, n⟩

/-- The result of a table, of the values of its columns. -/
def tableP (it : PItem) (vs : List PVal) : PVal × List Nat := (decideP it.policy (numsOf it.rules (metP it.rules vs)), metP it.rules vs)
def colVals (its : List PItem) (vs : List PVal) (it : PItem) : List PVal := it.cols.map fun c => vs.getD (placeP its c).toNat PVal.zero
def inputsTo (its : List PItem) (j : Nat) : Nat := ((its.take j).filter fun it => !it.isT).length
def inputsP (its : List PItem) : Nat := inputsTo its its.length
/-- The results of the first j items. -/
def resTo (its : List PItem) (vals : List Int) : Nat → List (PVal × List Nat)
  | 0 => []
  | j + 1 => resTo its vals j ++ [match its[j]? with
    | some it => if it.isT then tableP it (colVals its ((resTo its vals j).map Prod.fst) it) else (⟨0, vals.getD (inputsTo its j) 0⟩, [])
    | none => (PVal.zero, [])]
def resP (its : List PItem) (vals : List Int) : List (PVal × List Nat) := resTo its vals its.length
def fitsP (its : List PItem) (vals : List Int) : Bool := decide (vals.length = inputsP its) && !(vals.any numBeyond)
/-- The tables' values among the first j items. -/
def tabsTo (its : List PItem) (rs : List (PVal × List Nat)) : Nat → List PVal
  | 0 => []
  | j + 1 => tabsTo its rs j ++ (if (its.getD j noItem).isT then [(rs.getD j (PVal.zero, [])).1] else [])
def tabsP (its : List PItem) (vals : List Int) : List PVal := tabsTo its (resP its vals) its.length

/-- Labels. -/
def colLab (its : List PItem) (ls : List Nat) (cs : List ByteArray) (m : Nat) : Nat := cs.foldl (fun a c => a ||| ls.getD (placeP its c).toNat 0) m
def lab1 (its : List PItem) (ls : List Nat) (it : PItem) : Nat := colLab its ls it.cols it.marks &&& (7 - it.drops)
def labsTo (its : List PItem) : Nat → List Nat
  | 0 => []
  | j + 1 => labsTo its j ++ [match its[j]? with
    | some it => lab1 its (labsTo its j) it
    | none => 0]
def labsP (its : List PItem) : List Nat := labsTo its its.length

/-- What is told. -/
def shownOut (v : PVal) : List UInt8 := if v.kind = 1 then [110, 111, 110, 101] else if v.kind = 2 then [99, 108, 97, 115, 104] else Lib.itoa v.n
def rulesTold : Bool → List Nat → List UInt8
  | _, [] => []
  | true, i :: l => [32] ++ Lib.itoa ((i : Int) + 1) ++ rulesTold true l
  | false, i :: l => Lib.itoa ((i : Int) + 1) ++ rulesTold true l
def knownOut (it : PItem) (r : PVal × List Nat) : List UInt8 := shownOut r.1 ++ (if it.isT && decide (it.drops = 0) then [32] ++ [91] ++ rulesTold false r.2 ++ [93] else [])
def seenB (lab clear : Nat) : Bool := decide (lab &&& (7 - clear) = 0)
def lineOut (it : PItem) (lab : Nat) (clear : Nat) (r : PVal × List Nat) : List UInt8 := it.name.data.toList ++ [32] ++ (if seenB lab clear then knownOut it r else [63]) ++ [10]
def toldTo (its : List PItem) (ls : List Nat) (rs : List (PVal × List Nat)) (clear : Nat) : Nat → List UInt8
  | 0 => []
  | j + 1 => toldTo its ls rs clear j ++ lineOut (its.getD j noItem) (ls.getD j 0) clear (rs.getD j (PVal.zero, []))
def explainP (its : List PItem) (clear : Nat) (vals : List Int) : List UInt8 := toldTo its (labsP its) (resP its vals) clear its.length

theorem resTo_len (its : List PItem) (vals : List Int) : ∀ j, (resTo its vals j).length = j
  | 0 => rfl
  | j + 1 => by rw [resTo, List.length_append, resTo_len its vals j]; rfl
theorem labsTo_len (its : List PItem) : ∀ j, (labsTo its j).length = j
  | 0 => rfl
  | j + 1 => by rw [labsTo, List.length_append, labsTo_len its j]; rfl
theorem resTo_succ {its : List PItem} (vals : List Int) {j : Nat} (h : j < its.length) : resTo its vals (j + 1) = resTo its vals j ++ [if its[j].isT then tableP its[j] (colVals its ((resTo its vals j).map Prod.fst) its[j]) else (⟨0, vals.getD (inputsTo its j) 0⟩, [])] := by
  rw [resTo]; simp only [List.getElem?_eq_getElem h]
theorem labsTo_succ {its : List PItem} {j : Nat} (h : j < its.length) : labsTo its (j + 1) = labsTo its j ++ [lab1 its (labsTo its j) its[j]] := by
  rw [labsTo]; simp only [List.getElem?_eq_getElem h]
theorem inputsTo_succ {its : List PItem} {j : Nat} (h : j < its.length) : inputsTo its (j + 1) = inputsTo its j + (if its[j].isT then 0 else 1) := by
  unfold inputsTo
  rw [List.take_succ_eq_append_getElem h, List.filter_append, List.length_append]
  congr 1
  cases h2 : its[j].isT <;> simp [h2]
theorem inputsTo_le (its : List PItem) (j : Nat) : inputsTo its j ≤ j := by
  unfold inputsTo
  have := List.length_filter_le (fun it : PItem => !it.isT) (its.take j)
  simp at this ⊢; omega
theorem inputsTo_mono (its : List PItem) {i j : Nat} (h : i ≤ j) : inputsTo its i ≤ inputsTo its j := by
  unfold inputsTo
  have : its.take i = (its.take j).take i := by rw [List.take_take, Nat.min_eq_left h]
  rw [this]
  exact (List.Sublist.filter _ (List.take_sublist i (its.take j))).length_le
theorem colLab_le (its : List PItem) (ls : List Nat) (hl : ∀ x ∈ ls, x ≤ 7) : ∀ (cs : List ByteArray) (m : Nat), m ≤ 7 → colLab its ls cs m ≤ 7
  | [], m, h => h
  | c :: cs, m, h => by
    unfold colLab
    rw [List.foldl_cons]
    refine colLab_le its ls hl cs _ ?_
    have h2 : ls.getD (placeP its c).toNat 0 ≤ 7 := by
      rw [List.getD_eq_getElem?_getD]
      cases hq : ls[(placeP its c).toNat]? with
      | none => simp
      | some y => exact hl y (List.mem_of_getElem? hq)
    have := Nat.or_lt_two_pow (x := m) (y := ls.getD (placeP its c).toNat 0) (n := 3) (by omega) (by omega)
    omega
theorem lab1_le {its : List PItem} {ls : List Nat} {it : PItem} (hl : ∀ x ∈ ls, x ≤ 7) (hm : it.marks ≤ 7) : lab1 its ls it ≤ 7 := by
  unfold lab1
  exact Nat.le_trans Nat.and_le_left (colLab_le its ls hl _ _ hm)
theorem labsTo_le {its : List PItem} (hm : ∀ it ∈ its, it.marks ≤ 7) : ∀ j, ∀ x ∈ labsTo its j, x ≤ 7
  | 0 => by simp [labsTo]
  | j + 1 => by
    intro x hx
    rw [labsTo, List.mem_append] at hx
    rcases hx with hx | hx
    · exact labsTo_le hm j x hx
    · rw [List.mem_singleton] at hx
      rw [hx]
      split
      · rename_i it hi
        exact lab1_le (labsTo_le hm j) (hm it (List.mem_of_getElem? hi))
      · omega
theorem seenB_mono {l c d : Nat} (hl : l ≤ 7) (hc : c ≤ 7) (hd : d ≤ 7) (h : seenB l c = true) : seenB l (c ||| d) = true := by
  have key : ∀ l : Fin 8, ∀ c : Fin 8, ∀ d : Fin 8, seenB l.val c.val = true → seenB l.val (c.val ||| d.val) = true := by decide
  exact key ⟨l, by omega⟩ ⟨c, by omega⟩ ⟨d, by omega⟩ h
theorem seenB_or {a b c : Nat} (ha : a ≤ 7) (hb : b ≤ 7) (hc : c ≤ 7) (h : seenB (a ||| b) c = true) : seenB a c = true ∧ seenB b c = true := by
  have key : ∀ a : Fin 8, ∀ b : Fin 8, ∀ c : Fin 8, seenB (a.val ||| b.val) c.val = true → seenB a.val c.val = true ∧ seenB b.val c.val = true := by decide
  exact key ⟨a, by omega⟩ ⟨b, by omega⟩ ⟨c, by omega⟩ h
end Go.Proofs.YthnggjaecngbiaaGreatDoor

