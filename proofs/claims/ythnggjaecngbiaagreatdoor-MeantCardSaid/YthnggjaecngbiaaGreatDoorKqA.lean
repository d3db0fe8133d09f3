import Derived.Test.YthnggjaecngbiaaGreatDoorKpC
namespace Go.Proofs.YthnggjaecngbiaaGreatDoor
open Go.RowKit

/-- A text of lines. -/
theorem linesTo_of (s : ByteArray) : ∀ (ls : List (List UInt8)) (k : Nat) (acc : List ByteArray), Tl s k (ls.flatMap (· ++ [10])) → (∀ l ∈ ls, ∀ c ∈ l, c ≠ 10) → linesTo s k = (acc, k) → linesTo s s.size = (acc ++ ls.map (fun l => ⟨l.toArray⟩), s.size)
  | [], k, acc, h, _, hk => by
    have := h.size
    simp at this
    subst this
    rw [hk]; simp
  | l :: ls, k, acc, h, hn, hk => by
    rw [List.flatMap_cons] at h
    have key : ∀ (a b : List UInt8) (m : Nat), Tl s m (a ++ b) → (∀ c ∈ a, c ≠ 10) → linesTo s m = (acc, k) → linesTo s (m + a.length) = (acc, k) := by
      intro a
      induction a with
      | nil => intro b m _ _ hm; simpa using hm
      | cons c a ih =>
        intro b m hm hc hl
        have h1 : linesTo s (m + 1) = (acc, k) := by
          rw [linesTo, if_neg, hl]
          rw [hm.byte]
          intro e
          have e2 : (c.toNat : Int) = 10 := e
          exact hc c (by simp) (UInt8.toNat_inj.1 (by have : (10 : UInt8).toNat = 10 := rfl; omega))
        have := ih b (m + 1) hm.cons (fun x hx => hc x (by simp [hx])) h1
        rw [List.length_cons, show m + (a.length + 1) = m + 1 + a.length by omega]
        exact this
    rw [List.append_assoc] at h
    have h1 := key l _ k h (hn l (by simp)) hk
    have h2 := h.app
    have h3 : linesTo s (k + l.length + 1) = (acc ++ [⟨l.toArray⟩], k + l.length + 1) := by
      rw [linesTo, if_pos (show byteAt s (k + l.length) = 10 from h2.byte.trans rfl), h1]
      simp only
      rw [h.ext]
    have := linesTo_of s ls (k + l.length + 1) (acc ++ [⟨l.toArray⟩]) h2.cons (fun x hx => hn x (by simp [hx])) h3
    rw [this]
    simp
theorem linesP_of {s : ByteArray} (ls : List (List UInt8)) (h : s.data.toList = ls.flatMap (· ++ [10])) (hn : ∀ l ∈ ls, ∀ c ∈ l, c ≠ 10) : linesP s = ls.map (fun l => ⟨l.toArray⟩) := by
  unfold linesP
  rw [linesTo_of s ls 0 [] ⟨by omega, by simpa using h⟩ hn rfl]
  simp

/-- Neither the end of a line nor the sign of drops. -/
def Plainb (l : List UInt8) : Prop := ∀ c ∈ l, c ≠ 10 ∧ c ≠ 92
theorem Plainb.app {a b : List UInt8} (h : Plainb a) (g : Plainb b) : Plainb (a ++ b) := fun c hc => by
  rcases List.mem_append.1 hc with h1 | h1
  · exact h c h1
  · exact g c h1
theorem plainb_low {l : List UInt8} (h : ∀ c ∈ l, isLow (c.toNat : Int) = true) : Plainb l := fun c hc => by
  have := h c hc
  unfold isLow at this
  simp at this
  constructor
  · intro e; subst e; simp at this
  · intro e; subst e; simp at this
theorem plainb_dig {l : List UInt8} (h : ∀ c ∈ l, isDig (c.toNat : Int) = true) : Plainb l := fun c hc => by
  have := h c hc
  unfold isDig at this
  simp at this
  constructor
  · intro e; subst e; simp at this
  · intro e; subst e; simp at this
theorem plainb_lit {l : List UInt8} (h : l.all (fun c => c != 10 && c != 92) = true) : Plainb l := fun c hc => by
  rw [List.all_eq_true] at h
  simpa using h c hc
theorem plainb_itoa (n : Int) : Plainb (Lib.itoa n) := by
  unfold Lib.itoa
  split
  · exact Plainb.app (a := [45]) (plainb_lit rfl) (plainb_dig (dd_dig _))
  · exact plainb_dig (dd_dig _)
theorem plainb_bare (t : PTest) : Plainb (bareOut t) := by
  unfold bareOut
  repeat' split
  · exact plainb_lit rfl
  · exact plainb_lit rfl
  · exact plainb_itoa _
  · exact ((plainb_itoa _).app (plainb_lit rfl)).app (plainb_itoa _)
  · exact (plainb_lit rfl).app (plainb_itoa _)
  · exact (plainb_lit rfl).app (plainb_itoa _)
  · exact plainb_lit rfl
theorem plainb_bangs : ∀ n, Plainb (Lib.repeatL [33] n)
  | 0 => by intro c hc; simp [Lib.repeatL] at hc
  | n + 1 => (plainb_lit rfl).app (plainb_bangs n)
theorem plainb_test (t : PTest) : Plainb (testOut t) := (plainb_bangs _).app (plainb_bare t)
theorem plainb_tests : ∀ (b : Bool) (ts : List PTest), Plainb (tOuts b ts)
  | true, [] => by intro c hc; simp [tOuts] at hc
  | false, [] => by intro c hc; simp [tOuts] at hc
  | true, t :: ts => ((plainb_lit rfl).app (plainb_test t)).app (plainb_tests true ts)
  | false, t :: ts => (plainb_test t).app (plainb_tests true ts)
theorem plainb_rules : ∀ (rs : List PRule), Plainb (rs.flatMap ruleOut)
  | [] => by intro c hc; simp at hc
  | r :: rs => by
    rw [List.flatMap_cons]
    exact ((((plainb_tests false _).app (plainb_lit rfl)).app (plainb_itoa _)).app (plainb_lit rfl)).app (plainb_rules rs)
theorem plainb_join : ∀ (cs : List ByteArray), (∀ c ∈ cs, NameOK c) → Plainb (joinOut cs)
  | [], _ => by intro c hc; simp [joinOut, Lib.join_nil] at hc
  | c :: cs, h => by
    rw [joinOut_cons]
    refine (plainb_low (h c (by simp)).2).app ?_
    have : ∀ (cs : List ByteArray), (∀ c ∈ cs, NameOK c) → Plainb (Lib.joinTail [44] (cs.map fun x => x.data.toList)) := by
      intro cs
      induction cs with
      | nil => intro _ c hc; simp [Lib.joinTail] at hc
      | cons d ds ih =>
        intro hd
        rw [List.map_cons, joinTail_cons]
        exact ((plainb_lit rfl).app (plainb_low (hd d (by simp)).2)).app (ih (fun x hx => hd x (by simp [hx])))
    exact this cs (fun x hx => h x (by simp [hx]))
theorem plainb_mark (m : Nat) : Plainb (markOut m 3) := by
  unfold markOut
  refine Plainb.app (Plainb.app ?_ ?_) ?_
  all_goals split
  all_goals exact plainb_lit rfl

theorem isPol_plain {c : Int} (h : isPol c = true) : Plainb [u8 c] := by
  unfold isPol at h
  simp at h
  rcases h with h | h | h | h | h <;> subst h <;> exact plainb_lit rfl

/-- The line of an item, read again. -/
theorem itemK_of {it : PItem} (h : CanI it) : itemK ⟨(itemOut0 it).toArray⟩ = ⟨it.name, it.isT, decide (it.drops ≠ 0)⟩ ∧ ∀ c ∈ itemOut0 it, c ≠ 10 := by
  obtain ⟨s, hs⟩ : ∃ s : ByteArray, s = ⟨(itemOut0 it).toArray⟩ := ⟨_, rfl⟩
  have hl : s.data.toList = itemOut0 it := by rw [hs]
  have hsz : s.size = (itemOut0 it).length := by rw [← hl]; simp
  rw [← hs]
  rcases h with h | h
  · have g := h.isT
    have hio : itemOut0 it = [105, 110, 32] ++ (it.name.data.toList ++ (marksOut 47 it.marks ++ [59])) := by
      unfold itemOut0 inputOut; rw [g, if_neg (by simp)]; simp
    have hp : Plainb (itemOut0 it) := by
      rw [hio]
      refine (plainb_lit rfl).app ((plainb_low h.name.2).app (Plainb.app ?_ (plainb_lit rfl)))
      unfold marksOut
      split
      · exact plainb_lit rfl
      · exact (plainb_lit rfl).app (plainb_mark _)
    have ht0 : Tl s 0 (itemOut0 it) := ⟨by omega, by simpa using hl⟩
    rw [hio] at ht0
    have htab : isTab s = false := by
      unfold isTab
      rw [Bool.and_eq_false_iff]
      right
      rw [ByteArray.toList_eq, ByteArray.data_extract, Array.toList_extract, List.extract_eq_take_drop, hl, hio]
      rfl
    have ht3 := ht0.app
    have hne : isLow (headB (marksOut 47 it.marks ++ [59])) = false := by unfold marksOut; split <;> rfl
    obtain ⟨e1, e2⟩ := ht3.low h.name.2 hne
    refine ⟨?_, fun c hc => (hp c hc).1⟩
    have hat : nameAt s = 3 := by unfold nameAt; rw [htab]; rfl
    unfold itemK
    rw [hat, htab, g, h.drops]
    have e2' : s.extract 3 (lowEnd s 3) = it.name := e2
    rw [e2']
    congr 1
    unfold anyBack
    rw [hl, List.take_of_length_le (by omega)]
    simp only [ne_eq, not_true_eq_false, decide_false]
    rw [List.any_eq_false]
    intro c hc
    simpa using (hp c hc).2
  · have g := h.isT
    have hio : itemOut0 it = [116, 97, 98, 108, 101, 32] ++ (it.name.data.toList ++ ([32] ++ [u8 it.policy] ++ [40] ++ joinOut it.cols ++ [41] ++ (marksOut 92 it.drops ++ ([123] ++ it.rules.flatMap ruleOut ++ [125])))) := by
      unfold itemOut0 tableOut; rw [g, if_pos rfl]; simp
    have hp1 : Plainb ([32] ++ [u8 it.policy] ++ [40] ++ joinOut it.cols ++ [41]) := ((((plainb_lit rfl).app (isPol_plain h.pol)).app (plainb_lit rfl)).app (plainb_join _ h.cols)).app (plainb_lit rfl)
    have hp2 : Plainb ([123] ++ it.rules.flatMap ruleOut ++ [125]) := ((plainb_lit rfl).app (plainb_rules _)).app (plainb_lit rfl)
    have ht0 : Tl s 0 (itemOut0 it) := ⟨by omega, by simpa using hl⟩
    rw [hio] at ht0
    have htab : isTab s = true := by
      unfold isTab
      rw [Bool.and_eq_true]
      refine ⟨?_, ?_⟩
      · have := (h.name).ne
        have hnl : 1 ≤ it.name.data.toList.length := List.length_pos_iff.2 this
        rw [hsz, hio]
        simp at hnl ⊢
        omega
      · rw [ByteArray.toList_eq, ByteArray.data_extract, Array.toList_extract, List.extract_eq_take_drop, hl, hio]
        rfl
    have ht6 := ht0.app
    obtain ⟨e1, e2⟩ := ht6.low h.name.2 rfl
    have hat : nameAt s = 6 := by unfold nameAt; rw [htab]; rfl
    have e2' : s.extract 6 (lowEnd s 6) = it.name := e2
    have hback : (itemOut0 it).any (· == 92) = decide (it.drops ≠ 0) := by
      rw [hio]
      generalize [32] ++ [u8 it.policy] ++ [40] ++ joinOut it.cols ++ [41] = M at hp1 ⊢
      generalize [123] ++ it.rules.flatMap ruleOut ++ [125] = M2 at hp2 ⊢
      rw [List.any_append, List.any_append, List.any_append, List.any_append]
      have n1 : ∀ l : List UInt8, Plainb l → l.any (· == 92) = false := fun l hl => by
        rw [List.any_eq_false]; intro c hc; simpa using (hl c hc).2
      rw [n1 _ (plainb_lit rfl), n1 _ (plainb_low h.name.2), n1 _ hp1, n1 _ hp2]
      simp only [Bool.false_or, Bool.or_false]
      by_cases hd : it.drops = 0
      · rw [hd]; rfl
      · rw [marksOut_pos hd]; simp [hd]; left; rfl
    refine ⟨?_, fun c hc => ?_⟩
    · unfold itemK
      rw [hat, htab, g, e2']
      congr 1
      unfold anyBack
      rw [hl, List.take_of_length_le (by omega)]
      exact hback
    · rw [hio] at hc
      rcases List.mem_append.1 hc with hc | hc
      · exact ((plainb_lit (l := [116, 97, 98, 108, 101, 32]) rfl) c hc).1
      rcases List.mem_append.1 hc with hc | hc
      · exact ((plainb_low h.name.2) c hc).1
      rcases List.mem_append.1 hc with hc | hc
      · exact (hp1 c hc).1
      rcases List.mem_append.1 hc with hc | hc
      · unfold marksOut at hc
        split at hc
        · simp at hc
        · rcases List.mem_append.1 hc with hc | hc
          · simp at hc; subst hc; decide
          · exact (plainb_mark _ c hc).1
      · exact (hp2 c hc).1
theorem linesP_plan {its : List PItem} (h : ∀ it ∈ its, CanI it) : linesP ⟨(planOut its).toArray⟩ = its.map (fun it => ⟨(itemOut0 it).toArray⟩) := by
  rw [linesP_of (its.map itemOut0) (by simp only [planOut, List.flatMap_map]; rfl) (fun l hl c hc => by
    rw [List.mem_map] at hl
    obtain ⟨it, hi, rfl⟩ := hl
    exact (itemK_of (h it hi)).2 c hc), List.map_map]
  rfl
end Go.Proofs.YthnggjaecngbiaaGreatDoor
