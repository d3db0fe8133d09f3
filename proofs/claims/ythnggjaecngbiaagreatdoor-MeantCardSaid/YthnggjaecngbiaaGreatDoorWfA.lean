import Derived.Test.YthnggjaecngbiaaGreatDoorRdO
import Derived.Test.YthnggjaecngbiaaGreatDoorShelf
namespace Go.Proofs.YthnggjaecngbiaaGreatDoor
open Go.RowKit

structure WfT (t : PTest) : Prop where
  nots : t.nots ≤ 1000
  kind : 0 ≤ t.kind ∧ t.kind ≤ 6
  low : -9999999 ≤ t.low ∧ t.low ≤ 9999999
  high : -9999999 ≤ t.high ∧ t.high ≤ 9999999
structure WfR (r : PRule) : Prop where
  len : r.tests.length ≤ 1001
  tests : ∀ t ∈ r.tests, WfT t
  num : -9999999 ≤ r.num ∧ r.num ≤ 9999999
structure WfI (it : PItem) : Prop where
  name : it.name.size ≤ 8
  marks : it.marks ≤ 7
  drops : it.drops ≤ 7
  policy : 0 ≤ it.policy ∧ it.policy ≤ 255
  clen : it.cols.length ≤ 1001
  cols : ∀ c ∈ it.cols, c.size ≤ 8
  rlen : it.rules.length ≤ 1001
  rules : ∀ r ∈ it.rules, WfR r

theorem numberTestR_wf {s : ByteArray} {k q : Nat} {t : PTest} (hk : k ≤ s.size) (h : numberTestR s k = .inr (t, q)) : WfT t := by
  unfold numberTestR at h
  split at h
  · cases h
  rename_i lo q1 hn
  have b1 := numberR_bd hk hn
  have h1 := nextP_le b1.2.2
  split at h
  · rename_i ha
    have h5 := inR_lt (by omega) ha
    split at h
    · rename_i hb
      have h6 := inR_lt (by omega) hb
      split at h
      · cases h
      · rename_i hi r hn2
        have b2 := numberR_bd (by omega) hn2
        simp only [Sum.inr.injEq, Prod.mk.injEq] at h
        rw [← h.1]
        exact ⟨by simp, by simp, b1.1, b2.1⟩
    · cases h
  · simp only [Sum.inr.injEq, Prod.mk.injEq] at h
    rw [← h.1]
    exact ⟨by simp, by simp, b1.1, by simp⟩
theorem wordTestR_wf {s : ByteArray} {k q : Nat} {t : PTest} (h : wordTestR s k = .inr (t, q)) : WfT t := by
  unfold wordTestR at h
  split at h
  · simp only [Sum.inr.injEq, Prod.mk.injEq] at h
    rw [← h.1]; exact ⟨by simp, by simp, by simp, by simp⟩
  split at h
  · simp only [Sum.inr.injEq, Prod.mk.injEq] at h
    rw [← h.1]; exact ⟨by simp, by simp, by simp, by simp⟩
  · cases h
theorem withNum_wf {s : ByteArray} {k q : Nat} {t : PTest} {c : Int} (hc : 0 ≤ c ∧ c ≤ 6) (hk : k ≤ s.size) (h : withNum c (numberR s k) = .inr (t, q)) : WfT t := by
  cases hn : numberR s k with
  | inl p => rw [hn] at h; cases h
  | inr vq =>
    obtain ⟨v, q1⟩ := vq
    have b1 := numberR_bd hk hn
    rw [hn] at h
    simp only [withNum, Sum.inr.injEq, Prod.mk.injEq] at h
    rw [← h.1]; exact ⟨by simp, hc, b1.1, by simp⟩
theorem bareTestR_wf {s : ByteArray} {k q : Nat} {t : PTest} (hk : k ≤ s.size) (h : bareTestR s k = .inr (t, q)) : WfT t := by
  have h1 := nextP_le hk
  unfold bareTestR at h
  split at h
  · simp only [Sum.inr.injEq, Prod.mk.injEq] at h
    rw [← h.1]; exact ⟨by simp, by simp, by simp, by simp⟩
  split at h
  · rename_i ha
    have := inR_lt (by omega) ha
    exact withNum_wf (by omega) (by omega) h
  split at h
  · rename_i ha
    have := inR_lt (by omega) ha
    exact withNum_wf (by omega) (by omega) h
  split at h
  · exact wordTestR_wf h
  · exact numberTestR_wf h1 h
theorem bangs_count (s : ByteArray) : ∀ (f k n : Nat), k ≤ s.size → n ≤ k → (bangs s f k n).1 ≤ s.size
  | 0, k, n, hk, hn => by simp only [bangs]; omega
  | f + 1, k, n, hk, hn => by
    have h4 := nextP_ge s k
    simp only [bangs]
    split
    · rename_i ha
      have h5 := inR_lt (by omega) ha
      exact bangs_count s f (nextP s k + 1) (n + 1) (by omega) (by omega)
    · simp only; omega
theorem testR_wf {s : ByteArray} {k q : Nat} {t : PTest} (hs : s.size ≤ 1000) (hk : k ≤ s.size) (h : testR s k = .inr (t, q)) : WfT t := by
  have hb := bangs_bd s (s.size - k) k 0 hk
  have hc := bangs_count s (s.size - k) k 0 hk (by omega)
  unfold testR at h
  split at h
  · cases h
  · rename_i t' q' hn
    have := bareTestR_wf hb.2 hn
    simp only [Sum.inr.injEq, Prod.mk.injEq] at h
    rw [← h.1]
    exact ⟨by simp only; omega, this.kind, this.low, this.high⟩
theorem testsR_wf (s : ByteArray) (hs : s.size ≤ 1000) : ∀ (f k : Nat) (ts : List PTest) (r : PRule) (q : Nat), k ≤ s.size → ts.length ≤ k + 1 → (∀ t ∈ ts, WfT t) → testsR s f k ts = .inr (r, q) → WfR r
  | 0, k, ts, r, q, hk, _, _, h => by cases h
  | f + 1, k, ts, r, q, hk, hl, hw, h => by
    have h1 := nextP_le hk
    have h4 := nextP_ge s k
    simp only [testsR] at h
    split at h
    · rename_i ha
      have h5 := inR_lt (by omega) ha
      split at h
      · cases h
      · rename_i t q' hn
        have b1 := testR_bd (by omega) hn
        have w1 := testR_wf hs (by omega) hn
        refine testsR_wf s hs f q' (ts ++ [t]) r q b1.2 (by simp; omega) ?_ h
        intro x hx
        simp at hx
        rcases hx with hx | rfl
        · exact hw x hx
        · exact w1
    · unfold ruleEnd at h
      split at h
      · rename_i ha
        have h5 := inR_lt (by omega) ha
        split at h
        · cases h
        · rename_i v q' hn
          have b1 := numberR_bd (by omega) hn
          split at h
          · simp only [Sum.inr.injEq, Prod.mk.injEq] at h
            rw [← h.1]
            exact ⟨by simp only; omega, hw, b1.1⟩
          · cases h
      · cases h
theorem ruleR_wf {s : ByteArray} {k q : Nat} {r : PRule} (hs : s.size ≤ 1000) (hk : k ≤ s.size) (h : ruleR s k = .inr (r, q)) : WfR r := by
  unfold ruleR at h
  split at h
  · cases h
  · rename_i t q' hn
    have b1 := testR_bd hk hn
    exact testsR_wf s hs _ q' [t] r q b1.2 (by simp) (by intro x hx; simp at hx; subst hx; exact testR_wf hs hk hn) h
theorem rulesR_wf (s : ByteArray) (hs : s.size ≤ 1000) : ∀ (f k : Nat) (i it : PItem) (q : Nat), k ≤ s.size → i.rules.length ≤ k → WfI i → rulesR s f k i = .inr (it, q) → WfI it
  | 0, k, i, it, q, hk, _, _, h => by cases h
  | f + 1, k, i, it, q, hk, hl, hw, h => by
    have h1 := nextP_le hk
    have h4 := nextP_ge s k
    simp only [rulesR] at h
    split at h
    · simp only [Sum.inr.injEq, Prod.mk.injEq] at h
      rw [← h.1]; exact hw
    · split at h
      · cases h
      · rename_i r q' hn
        have b1 := ruleR_bd h1 hn
        have w1 := ruleR_wf hs h1 hn
        refine rulesR_wf s hs f q' { i with rules := i.rules ++ [r] } it q b1.2 (by simp; omega) ⟨hw.name, hw.marks, hw.drops, hw.policy, hw.clen, hw.cols, by simp; omega, ?_⟩ h
        intro x hx
        simp at hx
        rcases hx with hx | rfl
        · exact hw.rules x hx
        · exact w1
theorem colsR_wf (s : ByteArray) (hs : s.size ≤ 1000) : ∀ (f k : Nat) (xs ys : List ByteArray) (q : Nat), k ≤ s.size → xs.length ≤ k → (∀ c ∈ xs, c.size ≤ 8) → colsR s f k xs = .inr (ys, q) → ys.length ≤ 1001 ∧ ∀ c ∈ ys, c.size ≤ 8
  | 0, k, xs, ys, q, hk, _, _, h => by cases h
  | f + 1, k, xs, ys, q, hk, hl, hw, h => by
    have h1 := nextP_le hk
    have h4 := nextP_ge s k
    simp only [colsR] at h
    split at h
    · rename_i ha
      have h5 := inR_lt (by omega) ha
      split at h
      · cases h
      · rename_i x q' hn
        have b1 := nameR_bd (by omega) hn
        refine colsR_wf s hs f q' (xs ++ [x]) ys q b1.2.1 (by simp; omega) ?_ h
        intro y hy
        simp at hy
        rcases hy with hy | rfl
        · exact hw y hy
        · exact b1.2.2
    · split at h
      · simp only [Sum.inr.injEq, Prod.mk.injEq] at h
        rw [← h.1]; exact ⟨by omega, hw⟩
      · cases h
theorem columnsR_wf {s : ByteArray} {k q : Nat} {xs : List ByteArray} (hs : s.size ≤ 1000) (_hk : k ≤ s.size) (h : columnsR s k = .inr (xs, q)) : xs.length ≤ 1001 ∧ ∀ c ∈ xs, c.size ≤ 8 := by
  unfold columnsR at h
  split at h
  · rename_i ha
    have h5 := inR_lt (by omega) ha
    split at h
    · cases h
    · rename_i x q' hn
      have b1 := nameR_bd (by omega) hn
      exact colsR_wf s hs _ q' [x] xs q b1.2.1 (by simp; omega) (by intro y hy; simp at hy; subst hy; exact b1.2.2) h
  · cases h
theorem inputR_wf {s : ByteArray} {k q : Nat} {it : PItem} (hk : k ≤ s.size) (h : inputR s k = .inr (it, q)) : WfI it := by
  unfold inputR at h
  split at h
  · cases h
  rename_i x q1 hn
  have b1 := nameR_bd hk hn
  have h1 := nextP_le b1.2.1
  have fin : ∀ (r m : Nat), m ≤ 7 → endIn s r ⟨x, false, m, 0, [], 0, []⟩ = .inr (it, q) → WfI it := fun r m hm h => by
    unfold endIn at h
    split at h
    · simp only [Sum.inr.injEq, Prod.mk.injEq] at h
      rw [← h.1]; exact ⟨b1.2.2, hm, by simp, by simp, by simp, by simp, by simp, by simp⟩
    · cases h
  split at h
  · rename_i ha
    have h3 := inR_lt (by omega) ha
    split at h
    · cases h
    · rename_i v r hm
      have b2 := marksR_bd (by omega) hm
      exact fin r v b2.1.2.2 h
  · exact fin _ 0 (by omega) h
theorem tableR_wf {s : ByteArray} {k q : Nat} {it : PItem} (hs : s.size ≤ 1000) (hk : k ≤ s.size) (h : tableR s k = .inr (it, q)) : WfI it := by
  unfold tableR at h
  split at h
  · cases h
  rename_i x q1 hn
  have b1 := nameR_bd hk hn
  split at h
  · cases h
  rename_i c q2 hp
  have b2 := policyR_bd b1.2.1 hp
  split at h
  · cases h
  rename_i xs q3 hc
  have b3 := columnsR_bd b2.1.2 hc
  have w3 := columnsR_wf hs b2.1.2 hc
  have h1 := nextP_le b3.2
  have fin : ∀ (r d : Nat), r ≤ s.size → d ≤ 7 → bodyR s r ⟨x, true, 0, c, xs, d, []⟩ = .inr (it, q) → WfI it := fun r d hr hd h => by
    unfold bodyR at h
    split at h
    · rename_i hc
      have := nextP_le hr
      have := inR_lt (by omega) hc
      exact rulesR_wf s hs _ _ _ _ _ (by omega) (by simp) ⟨b1.2.2, by simp, hd, b2.2, w3.1, w3.2, by simp, by simp⟩ h
    · cases h
  unfold dropsR at h
  split at h
  · rename_i ha
    have h3 := inR_lt (by omega) ha
    split at h
    · cases h
    · rename_i v r hm
      have b4 := marksR_bd (by omega) hm
      exact fin r v b4.2 b4.1.2.2 h
  · exact fin _ 0 h1 (by omega) h
theorem itemR_wf {s : ByteArray} {k q : Nat} {it : PItem} (hs : s.size ≤ 1000) (hk : k ≤ s.size) (h : itemR s k = .inr (it, q)) : WfI it := by
  have hp := nextP_le hk
  have hq := lowEnd_le hp
  unfold itemR at h
  split at h
  · exact inputR_wf hq h
  split at h
  · exact tableR_wf hs hq h
  · cases h
theorem itemsR_wf (s : ByteArray) (hs : s.size ≤ 1000) : ∀ (f k : Nat) (xs its : List PItem), k ≤ s.size → xs.length ≤ k → (∀ i ∈ xs, WfI i) → itemsR s f k xs = .inr its → its.length ≤ 1000 ∧ ∀ i ∈ its, WfI i
  | 0, k, xs, its, hk, _, _, h => by cases h
  | f + 1, k, xs, its, hk, hl, hw, h => by
    have h1 := nextP_le hk
    have h4 := nextP_ge s k
    simp only [itemsR] at h
    split at h
    · simp only [Sum.inr.injEq] at h
      rw [← h]; exact ⟨by omega, hw⟩
    · split at h
      · cases h
      · rename_i it q hn
        have b1 := itemR_bd h1 hn
        refine itemsR_wf s hs f q (xs ++ [it]) its b1.2 (by simp; omega) ?_ h
        intro y hy
        simp at hy
        rcases hy with hy | rfl
        · exact hw y hy
        · exact itemR_wf hs h1 hn
theorem planR_wf {s : ByteArray} (hs : s.size ≤ 1000) {its : List PItem} (h : planR s = .inr its) : its.length ≤ 1000 ∧ ∀ i ∈ its, WfI i :=
  itemsR_wf s hs _ 0 [] its (by omega) (by simp) (by simp) h

end Go.Proofs.YthnggjaecngbiaaGreatDoor

namespace Go.Proofs.YthnggjaecngbiaaGreatDoor
open Go Go.Proofs Go.Shelf Go.RowKit

def ren240 : Go.Shelf.Ren := ⟨fun | 240 => 96 | 276 => 130 | n => n, fun | 0 => 0 | 4 => 4 | 5 => 5 | 9 => 9 | 20 => 20 | 37 => 59 | 70 => 114 | 72 => 116 | 80 => 83 | 164 => 196 | n => n, fun | n => n⟩
theorem lays240 : Lays.n240 Tryz.prog ren240 := {
  mixed := by kernel_rfl
  f240 := Tryz.func96.trans (congrArg some (by kernel_rfl))
  f276 := Tryz.func130.trans (congrArg some (by kernel_rfl))
  t0 := Tryz.underlying0
  a0 := Tryz.isAgg0
  z0 := Tryz.sizeOf0
  v0 := Tryz.zeroValue0
  t4 := Tryz.underlying4
  a4 := Tryz.isAgg4
  z4 := Tryz.sizeOf4
  v4 := Tryz.zeroValue4
  t9 := Tryz.underlying9
  a9 := Tryz.isAgg9
  z9 := Tryz.sizeOf9
  v9 := Tryz.zeroValue9
  t20 := Tryz.underlying20
  a20 := Tryz.isAgg20
  z20 := Tryz.sizeOf20
  v20 := Tryz.zeroValue20
  t70 := Tryz.underlying114
  a70 := Tryz.isAgg114
  z70 := Tryz.sizeOf114
  v70 := Tryz.zeroValue114
  t72 := Tryz.underlying116
  a72 := Tryz.isAgg116
  z72 := Tryz.sizeOf116
  v72 := Tryz.zeroValue116
  t164 := Tryz.underlying196
  a164 := Tryz.isAgg196
  z164 := Tryz.sizeOf196
  v164 := Tryz.zeroValue196 }
theorem x72_240 : Builder.X72 Tryz.prog ren240 := {
  sizeBuilder := by kernel_rfl
  liesBuilder := by kernel_rfl }

def ren167 : Go.Shelf.Ren := ⟨fun | 167 => 65 | 240 => 96 | 276 => 130 | n => n, fun | 0 => 0 | 4 => 4 | 5 => 5 | 9 => 9 | 20 => 20 | 37 => 59 | 70 => 114 | 72 => 116 | 75 => 122 | 80 => 83 | 164 => 196 | n => n, fun | n => n⟩
theorem lays167 : Lays.n167 Tryz.prog ren167 := {
  mixed := by kernel_rfl
  f167 := Tryz.func65.trans (congrArg some (by kernel_rfl))
  f240 := Tryz.func96.trans (congrArg some (by kernel_rfl))
  f276 := Tryz.func130.trans (congrArg some (by kernel_rfl))
  t0 := Tryz.underlying0
  a0 := Tryz.isAgg0
  z0 := Tryz.sizeOf0
  v0 := Tryz.zeroValue0
  t4 := Tryz.underlying4
  a4 := Tryz.isAgg4
  z4 := Tryz.sizeOf4
  v4 := Tryz.zeroValue4
  t5 := Tryz.underlying5
  a5 := Tryz.isAgg5
  z5 := Tryz.sizeOf5
  v5 := Tryz.zeroValue5
  t9 := Tryz.underlying9
  a9 := Tryz.isAgg9
  z9 := Tryz.sizeOf9
  v9 := Tryz.zeroValue9
  t20 := Tryz.underlying20
  a20 := Tryz.isAgg20
  z20 := Tryz.sizeOf20
  v20 := Tryz.zeroValue20
  t37 := Tryz.underlying59
  a37 := Tryz.isAgg59
  z37 := Tryz.sizeOf59
  v37 := Tryz.zeroValue59
  t70 := Tryz.underlying114
  a70 := Tryz.isAgg114
  z70 := Tryz.sizeOf114
  v70 := Tryz.zeroValue114
  t72 := Tryz.underlying116
  a72 := Tryz.isAgg116
  z72 := Tryz.sizeOf116
  v72 := Tryz.zeroValue116
  t75 := Tryz.underlying122
  a75 := Tryz.isAgg122
  z75 := Tryz.sizeOf122
  v75 := Tryz.zeroValue122
  t164 := Tryz.underlying196
  a164 := Tryz.isAgg196
  z164 := Tryz.sizeOf196
  v164 := Tryz.zeroValue196 }
theorem extra167 : Builder.Extra Tryz.prog ren167 := {
  sizeBuilder := by kernel_rfl
  liesBuilder := by kernel_rfl
  t5 := Tryz.underlying5
  a5 := Tryz.isAgg5
  z5 := Tryz.sizeOf5
  v5 := Tryz.zeroValue5
  infoByte := by kernel_rfl
  cellsByte := by kernel_rfl
  sizeByte := by kernel_rfl
  neB5 := by decide }

def ren166 : Go.Shelf.Ren := ⟨fun | 166 => 70 | 240 => 96 | 276 => 130 | n => n, fun | 0 => 0 | 3 => 3 | 4 => 4 | 5 => 5 | 9 => 9 | 20 => 20 | 37 => 59 | 70 => 114 | 72 => 116 | 75 => 122 | 80 => 83 | 164 => 196 | n => n, fun | n => n⟩
theorem lays166 : Lays.n166 Tryz.prog ren166 := {
  mixed := by kernel_rfl
  f166 := Tryz.func70.trans (congrArg some (by kernel_rfl))
  f240 := Tryz.func96.trans (congrArg some (by kernel_rfl))
  f276 := Tryz.func130.trans (congrArg some (by kernel_rfl))
  t0 := Tryz.underlying0
  a0 := Tryz.isAgg0
  z0 := Tryz.sizeOf0
  v0 := Tryz.zeroValue0
  t3 := Tryz.underlying3
  a3 := Tryz.isAgg3
  z3 := Tryz.sizeOf3
  v3 := Tryz.zeroValue3
  t4 := Tryz.underlying4
  a4 := Tryz.isAgg4
  z4 := Tryz.sizeOf4
  v4 := Tryz.zeroValue4
  t9 := Tryz.underlying9
  a9 := Tryz.isAgg9
  z9 := Tryz.sizeOf9
  v9 := Tryz.zeroValue9
  t20 := Tryz.underlying20
  a20 := Tryz.isAgg20
  z20 := Tryz.sizeOf20
  v20 := Tryz.zeroValue20
  t37 := Tryz.underlying59
  a37 := Tryz.isAgg59
  z37 := Tryz.sizeOf59
  v37 := Tryz.zeroValue59
  t70 := Tryz.underlying114
  a70 := Tryz.isAgg114
  z70 := Tryz.sizeOf114
  v70 := Tryz.zeroValue114
  t72 := Tryz.underlying116
  a72 := Tryz.isAgg116
  z72 := Tryz.sizeOf116
  v72 := Tryz.zeroValue116
  t75 := Tryz.underlying122
  a75 := Tryz.isAgg122
  z75 := Tryz.sizeOf122
  v75 := Tryz.zeroValue122
  t164 := Tryz.underlying196
  a164 := Tryz.isAgg196
  z164 := Tryz.sizeOf196
  v164 := Tryz.zeroValue196 }
theorem extra166 : Builder.Extra Tryz.prog ren166 := {
  sizeBuilder := by kernel_rfl
  liesBuilder := by kernel_rfl
  t5 := Tryz.underlying5
  a5 := Tryz.isAgg5
  z5 := Tryz.sizeOf5
  v5 := Tryz.zeroValue5
  infoByte := by kernel_rfl
  cellsByte := by kernel_rfl
  sizeByte := by kernel_rfl
  neB5 := by decide }

theorem writeByte_any (B b : Nat) (bs : List Value) (c : Int) (w : World) (h : Lib.IsBuilderF 116 5 B b bs w) (hlen : bs.length + 1 ≤ 140737488355328) (hBw : B ≤ w.heap.size) :
    Calls Tryz.prog 65 #[.pointer (some ⟨b, 0, none⟩), .int .u8 c] w fun e w' => e = .returned .nilIface ∧ (Lib.BuilderAtF 116 5 B b (.pointer (some ⟨b, 0, none⟩)) (bs ++ [.int .u8 c]) w' ∧ Below B w w' ∧ Lib.OthersKept 5 (some b) w w') :=
  Any.Builder_WriteByte_k lays167 extra167 B b bs c w h hlen hBw
theorem writeString_any (B b : Nat) (bs : List Value) (s : ByteArray) (w : World) (h : Lib.IsBuilderF 116 5 B b bs w) (hlen : bs.length + s.size ≤ 140737488355328) (hBw : B ≤ w.heap.size) :
    Calls Tryz.prog 70 #[.pointer (some ⟨b, 0, none⟩), .string s] w fun e w' => e = .returned (.tuple #[.int .i64 s.size, .nilIface]) ∧ (Lib.BuilderAtF 116 5 B b (.pointer (some ⟨b, 0, none⟩)) (bs ++ Lib.strCells s) w' ∧ Below B w w' ∧ Lib.OthersKept 5 (some b) w w') :=
  Any.Builder_WriteString_k lays166 extra166 B b bs s w h hlen hBw

end Go.Proofs.YthnggjaecngbiaaGreatDoor

