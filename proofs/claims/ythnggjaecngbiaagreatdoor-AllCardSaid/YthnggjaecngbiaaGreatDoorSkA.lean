import Derived.Test.YthnggjaecngbiaaGreatDoorMdB
import Derived.Lib.SlicesCompact
import Derived.Lib.SlicesS
namespace Go.Proofs.YthnggjaecngbiaaGreatDoor
open Go.RowKit
def noTest : PTest := ⟨0, 0, 0, 0⟩
def noName : ByteArray := ⟨#[]⟩
section
variable (wanted : List Int → Bool) (fit : List Int → Int → Prop)
def HasE : Nat → List Int → Prop
 | 0, v => wanted v = true
 | d + 1, v => ∃ y, fit v y ∧ HasE d (v ++ [y])
def LeastE : Nat → List Int → List Int → Prop
 | 0, v, r => r = v ∧ wanted v = true
 | d + 1, v, r => ∃ y, fit v y ∧ HasE wanted fit d (v ++ [y]) ∧ (∀ z, fit v z → z < y → ¬ HasE wanted fit d (v ++ [z])) ∧ LeastE d (v ++ [y]) r
def searchC (ch : List Int → List Int) : Nat → List Int → Option (List Int)
 | 0, v => if wanted v then some v else none
 | d + 1, v => (ch v).findSome? fun y => searchC ch d (v ++ [y])
theorem LeastE.one : ∀ {d : Nat} {v r s : List Int}, LeastE wanted fit d v r → LeastE wanted fit d v s → r = s
 | 0, v, r, s, h1, h2 => h1.1.trans h2.1.symm
 | d + 1, v, r, s, ⟨y, a1, a2, a3, a4⟩, ⟨z, b1, b2, b3, b4⟩ => by
  have hyz : y = z := by
   rcases Int.lt_trichotomy y z with h | h | h
   ·exact absurd a2 (b3 y a1 h)
   ·exact h
   ·exact absurd b2 (a3 z b1 h)
  subst hyz
  exact LeastE.one a4 b4
theorem LeastE.has : ∀ {d : Nat} {v r : List Int}, LeastE wanted fit d v r → HasE wanted fit d v
 | 0, _, _, h => h.2
 | _ + 1, _, _, ⟨y, a1, a2, _, _⟩ => ⟨y, a1, a2⟩
structure GoodC (ch : List Int → List Int) (inv : List Int → Prop) (k : Nat) : Prop where
 sorted : ∀ v, inv v → v.length < k → (ch v).Pairwise (· < ·)
 fits : ∀ v, inv v → v.length < k → ∀ y ∈ ch v, fit v y ∧ inv (v ++ [y])
 enough : ∀ d v y, inv v → v.length + (d + 1) = k → fit v y → HasE wanted fit d (v ++ [y]) → ∃ z ∈ ch v, z ≤ y ∧ HasE wanted fit d (v ++ [z])
theorem findSome_least {f : Int → Option (List Int)} {p : Int → Prop} : ∀ {l : List Int}, l.Pairwise (· < ·) → (∀ y ∈ l, (f y = none ↔ ¬ p y)) → (l.findSome? f = none ∧ ∀ y ∈ l, ¬ p y) ∨ ∃ y ∈ l, p y ∧ (∀ z ∈ l, z < y → ¬ p z) ∧ l.findSome? f = f y
 | [], _, _ => Or.inl ⟨rfl, fun _ h => absurd h List.not_mem_nil⟩
 | x :: l, hs, hf => by
  have hx := hf x List.mem_cons_self
  rw [List.pairwise_cons] at hs
  cases hfx : f x with
  | some r =>
   refine Or.inr ⟨x, List.mem_cons_self, ?_, fun z hz hlt => ?_, by rw [List.findSome?_cons, hfx]⟩
   ·rcases Classical.em (p x) with h | h
    ·exact h
    ·rw [hx.2 h] at hfx; cases hfx
   ·rcases List.mem_cons.1 hz with h | h
    ·omega
    ·have := hs.1 z h; omega
  | none =>
   have hnp := hx.1 hfx
   rcases findSome_least hs.2 (fun y hy => hf y (List.mem_cons_of_mem _ hy)) with ⟨h1, h2⟩ | ⟨y, h1, h2, h3, h4⟩
   ·refine Or.inl ⟨by rw [List.findSome?_cons, hfx]; exact h1, fun y hy => ?_⟩
    rcases List.mem_cons.1 hy with h | h
    ·rw [h]; exact hnp
    ·exact h2 y h
   ·refine Or.inr ⟨y, List.mem_cons_of_mem _ h1, h2, fun z hz hlt => ?_, by rw [List.findSome?_cons, hfx]; exact h4⟩
    rcases List.mem_cons.1 hz with h | h
    ·rw [h]; exact hnp
    ·exact h3 z h hlt
variable {wanted fit}
theorem searchC_spec {ch : List Int → List Int} {inv : List Int → Prop} {k : Nat} (G : GoodC wanted fit ch inv k) : ∀ (d : Nat) (v : List Int), inv v → v.length + d = k →
  (searchC wanted ch d v = none ∧ ¬ HasE wanted fit d v) ∨ ∃ r, searchC wanted ch d v = some r ∧ LeastE wanted fit d v r
 | 0, v, _, _ => by
  unfold searchC
  cases hw : wanted v with
  | true => exact Or.inr ⟨v, rfl, rfl, hw⟩
  | false => exact Or.inl ⟨rfl, fun h => by unfold HasE at h; rw [hw] at h; cases h⟩
 | d + 1, v, hi, hk => by
  have hlt : v.length < k := by omega
  have hn : ∀ y ∈ ch v, (searchC wanted ch d (v ++ [y]) = none ↔ ¬ HasE wanted fit d (v ++ [y])) := fun y hy => by
   rcases searchC_spec G d (v ++ [y]) (G.fits v hi hlt y hy).2 (by simp; omega) with ⟨h1, h2⟩ | ⟨r, h1, h2⟩
   ·exact ⟨fun _ => h2, fun _ => h1⟩
   ·exact ⟨fun h => (by rw [h1] at h; cases h), fun h => absurd h2.has h⟩
  rcases findSome_least (G.sorted v hi hlt) hn with ⟨h1, h2⟩ | ⟨y, h1, h2, h3, h4⟩
  ·refine Or.inl ⟨h1, ?_⟩
   rintro ⟨y, hy, he⟩
   obtain ⟨z, hz, _, hez⟩ := G.enough d v y hi (by omega) hy he
   exact h2 z hz hez
  ·refine Or.inr ?_
   rcases searchC_spec G d (v ++ [y]) (G.fits v hi hlt y h1).2 (by simp; omega) with ⟨q1, q2⟩ | ⟨r, q1, q2⟩
   ·exact absurd h2 q2
   ·refine ⟨r, by show (ch v).findSome? _ = _; rw [h4, q1], y, (G.fits v hi hlt y h1).1, h2, fun z hz hzy he => ?_, q2⟩
    obtain ⟨z', hz', hle, hez⟩ := G.enough d v z hi (by omega) hz he
    exact h3 z' hz' (by omega) hez
theorem searchC_same {ch ch' : List Int → List Int} {inv inv' : List Int → Prop} {k : Nat} (G : GoodC wanted fit ch inv k) (G' : GoodC wanted fit ch' inv' k) {d : Nat} {v : List Int} (hi : inv v) (hi' : inv' v) (hk : v.length + d = k) :
  searchC wanted ch d v = searchC wanted ch' d v := by
 rcases searchC_spec G d v hi hk with ⟨h1, h2⟩ | ⟨r, h1, h2⟩ <;> rcases searchC_spec G' d v hi' hk with ⟨g1, g2⟩ | ⟨s, g1, g2⟩
 ·rw [h1, g1]
 ·exact absurd g2.has h2
 ·exact absurd h2.has g2
 ·rw [h1, g1, LeastE.one _ _ h2 g2]
end
def valsN (v : List Int) : List PVal := v.map fun n => ⟨0, n⟩
def isSought (many : Bool) (n : Nat) : Bool := (many && decide (1 < n)) || (!many && decide (n = 0))
def mayTo (cols : List ByteArray) (v : List Int) (y : Int) (j : Nat) : Bool := (List.range j).all fun i => !sameName (cols.getD i noName) (cols.getD v.length noName) || decide (v.getD i 0 = y)
def mayP (cols : List ByteArray) (v : List Int) (y : Int) : Bool := mayTo cols v y v.length
def wantP (rs : List PRule) (many : Bool) (v : List Int) : Bool := isSought many (metP rs (valsN v)).length
def fitP (cols : List ByteArray) (v : List Int) (y : Int) : Prop := -1000000 ≤ y ∧ y ≤ 1000000 ∧ ∀ i, i < v.length → cols.getD i noName = cols.getD v.length noName → v.getD i 0 = y
theorem mayP_iff (cols : List ByteArray) (v : List Int) (y : Int) : mayP cols v y = true ↔ ∀ i, i < v.length → cols.getD i noName = cols.getD v.length noName → v.getD i 0 = y := by
 unfold mayP mayTo
 rw [List.all_eq_true]
 constructor
 ·intro h i hi he
  have := h i (List.mem_range.2 hi)
  rw [(sameName_iff _ _).2 he] at this
  simpa using this
 ·intro h i hi
  rw [List.mem_range] at hi
  cases hs : sameName (cols.getD i noName) (cols.getD v.length noName) with
  | false => rfl
  | true => simpa using h i hi ((sameName_iff _ _).1 hs)
def turnsP (t : PTest) : List Int := if t.kind = 3 then [t.low, t.low + 1] else if t.kind = 4 then [t.low, t.high + 1] else if t.kind = 5 then [t.low] else if t.kind = 6 then [t.low + 1] else []
theorem meets_same {t : PTest} {y z : Int} (hzy : z ≤ y) (h : ∀ c ∈ turnsP t, c ≤ y → c ≤ z) : meetsP t 0 y = meetsP t 0 z := by
 have hb : bareMeets t 0 y = bareMeets t 0 z := by
  unfold turnsP at h
  unfold bareMeets
  by_cases h3 : t.kind = 3
  ·rw [if_pos h3] at h
   have a := h t.low (by simp)
   have b := h (t.low + 1) (by simp)
   simp only [h3]
   have : (y = t.low) ↔ (z = t.low) := by omega
   simp [this]
  rw [if_neg h3] at h
  by_cases h4 : t.kind = 4
  ·rw [if_pos h4] at h
   have a := h t.low (by simp)
   have b := h (t.high + 1) (by simp)
   simp only [h4]
   have e1 : (t.low ≤ y) ↔ (t.low ≤ z) := by omega
   have e2 : (y ≤ t.high) ↔ (z ≤ t.high) := by omega
   simp [e1, e2]
  rw [if_neg h4] at h
  by_cases h5 : t.kind = 5
  ·rw [if_pos h5] at h
   have a := h t.low (by simp)
   simp only [h5]
   have e1 : (y < t.low) ↔ (z < t.low) := by omega
   simp [e1]
  rw [if_neg h5] at h
  by_cases h6 : t.kind = 6
  ·rw [if_pos h6] at h
   have a := h (t.low + 1) (by simp)
   simp only [h6]
   have e1 : (t.low < y) ↔ (t.low < z) := by omega
   simp [e1]
  simp [h3, h4, h5, h6]
 unfold meetsP
 rw [hb]
theorem zip_same : ∀ (ts : List PTest) (a b : List Int), a.length = b.length → (∀ i, i < a.length → i < ts.length → meetsP (ts.getD i noTest) 0 (a.getD i 0) = meetsP (ts.getD i noTest) 0 (b.getD i 0)) → ruleMet ts (valsN a) = ruleMet ts (valsN b)
 | [], _, _, _, _ => rfl
 | _ :: _, [], [], _, _ => rfl
 | _ :: _, [], _ :: _, h, _ => by cases h
 | _ :: _, _ :: _, [], h, _ => by cases h
 | t :: ts, x :: a, y :: b, hl, h => by
  have h0 := h 0 (by simp) (by simp)
  have hr := zip_same ts a b (by simpa using hl) fun i hi ht => by simpa using h (i + 1) (by simpa using hi) (by simpa using ht)
  unfold ruleMet valsN at *
  simp only [List.map_cons, List.zip_cons_cons, List.all_cons]
  rw [hr]
  congr 1
theorem met_same {rs : List PRule} {a b : List Int} (hl : a.length = b.length) (h : ∀ r ∈ rs, ∀ i, i < a.length → i < r.tests.length → meetsP (r.tests.getD i noTest) 0 (a.getD i 0) = meetsP (r.tests.getD i noTest) 0 (b.getD i 0)) : metP rs (valsN a) = metP rs (valsN b) := by
 unfold metP metTo
 apply List.filter_congr
 intro i hi
 rw [List.mem_range] at hi
 rw [List.getElem?_eq_getElem hi]
 exact zip_same _ a b hl (h _ (List.getElem_mem hi))
structure SameBut (cols : List ByteArray) (c : ByteArray) (y z : Int) (a b : List Int) : Prop where
 len : a.length = b.length
 at1 : ∀ i, i < a.length → cols.getD i noName = c → a.getD i 0 = y ∧ b.getD i 0 = z
 else1 : ∀ i, i < a.length → cols.getD i noName ≠ c → a.getD i 0 = b.getD i 0
theorem getD_app_lt {l : List Int} {x : Int} {i : Nat} (h : i < l.length) : (l ++ [x]).getD i 0 = l.getD i 0 := by
 rw [List.getD_eq_getElem?_getD, List.getD_eq_getElem?_getD, List.getElem?_append_left h]
theorem getD_app_at (l : List Int) (x : Int) : (l ++ [x]).getD l.length 0 = x := by
 rw [List.getD_eq_getElem?_getD, List.getElem?_append_right (Nat.le_refl _)]
 simp
theorem has_other {cols : List ByteArray} {rs : List PRule} {many : Bool} {c : ByteArray} {y z : Int} (hz : -1000000 ≤ z ∧ z ≤ 1000000) (hs : ∀ r ∈ rs, ∀ i, i < r.tests.length → cols.getD i noName = c → meetsP (r.tests.getD i noTest) 0 y = meetsP (r.tests.getD i noTest) 0 z) :
  ∀ (d : Nat) (a b : List Int), SameBut cols c y z a b → (∃ i, i < a.length ∧ cols.getD i noName = c) → HasE (wantP rs many) (fitP cols) d a → HasE (wantP rs many) (fitP cols) d b
 | 0, a, b, S, _, h => by
  unfold HasE wantP at h ⊢
  rw [← h, met_same S.len]
  intro r hr i hi ht
  by_cases hc : cols.getD i noName = c
  ·obtain ⟨e1, e2⟩ := S.at1 i hi hc
   rw [e1, e2]
   exact hs r hr i ht hc
  ·rw [S.else1 i hi hc]
 | d + 1, a, b, S, ⟨i0, hi0, hc0⟩, ⟨y1, f1, h1⟩ => by
  by_cases hc : cols.getD a.length noName = c
  ·have hy1 : y1 = y := by
    have := f1.2.2 i0 hi0 (by rw [hc0, hc])
    rw [(S.at1 i0 hi0 hc0).1] at this
    exact this.symm
   refine ⟨z, ⟨hz.1, hz.2, fun i hi he => ?_⟩, has_other hz hs d (a ++ [y1]) (b ++ [z]) ⟨by simp [S.len], fun i hi hic => ?_, fun i hi hic => ?_⟩ ⟨i0, by simp; omega, hc0⟩ h1⟩
   ·rw [← S.len] at hi he
    exact (S.at1 i hi (by rw [he, hc])).2
   ·rcases Nat.lt_or_ge i a.length with hlt | hge
    ·rw [getD_app_lt hlt, getD_app_lt (S.len ▸ hlt)]
     exact S.at1 i hlt hic
    ·have hie : i = a.length := by simp at hi; omega
     rw [hie, getD_app_at]
     rw [S.len, getD_app_at]
     exact ⟨hy1, rfl⟩
   ·rcases Nat.lt_or_ge i a.length with hlt | hge
    ·rw [getD_app_lt hlt, getD_app_lt (S.len ▸ hlt)]
     exact S.else1 i hlt hic
    ·have hie : i = a.length := by simp at hi; omega
     rw [hie] at hic
     exact absurd hc hic
  ·refine ⟨y1, ⟨f1.1, f1.2.1, fun i hi he => ?_⟩, has_other hz hs d (a ++ [y1]) (b ++ [y1]) ⟨by simp [S.len], fun i hi hic => ?_, fun i hi hic => ?_⟩ ⟨i0, by simp; omega, hc0⟩ h1⟩
   ·rw [← S.len] at hi he
    rw [← S.else1 i hi (by rw [he]; exact hc)]
    exact f1.2.2 i hi he
   ·rcases Nat.lt_or_ge i a.length with hlt | hge
    ·rw [getD_app_lt hlt, getD_app_lt (S.len ▸ hlt)]
     exact S.at1 i hlt hic
    ·have hie : i = a.length := by simp at hi; omega
     rw [hie] at hic
     exact absurd hic hc
   ·rcases Nat.lt_or_ge i a.length with hlt | hge
    ·rw [getD_app_lt hlt, getD_app_lt (S.len ▸ hlt)]
     exact S.else1 i hlt hic
    ·have hie : i = a.length := by simp at hi; omega
     rw [hie, getD_app_at, S.len, getD_app_at]
theorem greatest_below {y m : Int} : ∀ {l : List Int}, m ∈ l → m ≤ y → ∃ z ∈ l, z ≤ y ∧ ∀ c ∈ l, c ≤ y → c ≤ z
 | [], h, _ => absurd h List.not_mem_nil
 | x :: l, h, hm => by
  by_cases hex : ∃ m' ∈ l, m' ≤ y
  ·obtain ⟨m', h1, h2⟩ := hex
   obtain ⟨z, hz, hzy, hg⟩ := greatest_below h1 h2
   by_cases hx : x ≤ y ∧ z < x
   ·refine ⟨x, List.mem_cons_self, hx.1, fun c hc hcy => ?_⟩
    rcases List.mem_cons.1 hc with h | h
    ·omega
    ·have := hg c h hcy; omega
   ·refine ⟨z, List.mem_cons_of_mem _ hz, hzy, fun c hc hcy => ?_⟩
    rcases List.mem_cons.1 hc with h | h
    ·omega
    ·exact hg c h hcy
  ·rcases List.mem_cons.1 h with e | e
   ·subst e
    refine ⟨m, List.mem_cons_self, hm, fun c hc hcy => ?_⟩
    rcases List.mem_cons.1 hc with h | h
    ·omega
    ·exact absurd ⟨c, h, hcy⟩ hex
   ·exact absurd ⟨m, e, hm⟩ hex
theorem enough_new {cols : List ByteArray} {rs : List PRule} {many : Bool} {v : List Int} {L : List Int} (hnew : ∀ i, i < v.length → cols.getD i noName ≠ cols.getD v.length noName) (hm : -1000000 ∈ L) (hr : ∀ c ∈ L, -1000000 ≤ c ∧ c ≤ 1000000)
  (ht : ∀ r ∈ rs, ∀ i, i < r.tests.length → cols.getD i noName = cols.getD v.length noName → ∀ c ∈ turnsP (r.tests.getD i noTest), c ≤ 1000000 → c ∈ L ∨ c ≤ -1000000) {d : Nat} {y : Int} (hf : fitP cols v y) (h : HasE (wantP rs many) (fitP cols) d (v ++ [y])) :
  ∃ z ∈ L, z ≤ y ∧ HasE (wantP rs many) (fitP cols) d (v ++ [z]) := by
 obtain ⟨z, hz, hzy, hg⟩ := greatest_below hm hf.1
 refine ⟨z, hz, hzy, has_other (y := y) (hr z hz) (fun r hr' i hi hc => ?_) d (v ++ [y]) (v ++ [z]) ⟨by simp, fun i hi hc => ?_, fun i hi hc => ?_⟩ ⟨v.length, by simp, rfl⟩ h⟩
 ·refine meets_same hzy fun c hc1 hcy => ?_
  rcases ht r hr' i hi hc c hc1 (Int.le_trans hcy hf.2.1) with h1 | h1
  ·exact hg c h1 hcy
  ·exact Int.le_trans h1 (hr z hz).1
 ·rcases Nat.lt_or_ge i v.length with hlt | hge
  ·exact absurd hc (hnew i hlt)
  ·have hie : i = v.length := by simp at hi; omega
   rw [hie, getD_app_at, getD_app_at]
   exact ⟨rfl, rfl⟩
 ·rcases Nat.lt_or_ge i v.length with hlt | hge
  ·rw [getD_app_lt hlt, getD_app_lt hlt]
  ·have hie : i = v.length := by simp at hi; omega
   rw [hie] at hc
   exact absurd rfl hc
theorem compact_mem {zs : List Int} {x : Int} : x ∈ Lib.compact zs ↔ x ∈ zs := by
 have hg : ∀ j, j < zs.length → zs.toArray[j]! ∈ zs := fun j hj => by
  rw [getElem!_pos _ _ (by simpa using hj)]
  simp
 unfold Lib.compact Lib.compactUpTo
 constructor
 ·intro h
  obtain ⟨j, hj, rfl⟩ := List.mem_map.1 h
  exact hg j (List.mem_range.1 (List.mem_filter.1 hj).1)
 ·intro h
  obtain ⟨j, hj, rfl⟩ := List.getElem_of_mem h
  have he : ∀ i, i ≤ j → zs[i]? = some zs[j] → ∃ k, k ≤ i ∧ Lib.keeps zs.toArray k = true ∧ zs.toArray[k]! = zs[j] := by
   intro i
   induction i with
   | zero =>
    intro _ h0
    refine ⟨0, Nat.le_refl _, by simp [Lib.keeps], ?_⟩
    obtain ⟨h1, h2⟩ := List.getElem?_eq_some_iff.1 h0
    rw [getElem!_pos _ _ (by simpa using h1)]
    simpa using h2
   | succ i ih =>
    intro hi h0
    obtain ⟨h1, h2⟩ := List.getElem?_eq_some_iff.1 h0
    have e1 : zs.toArray[i + 1]! = zs[j] := by
     rw [getElem!_pos _ _ (by simpa using h1)]
     simpa using h2
    cases hk : Lib.keeps zs.toArray (i + 1) with
    | true => exact ⟨i + 1, Nat.le_refl _, hk, e1⟩
    | false =>
     unfold Lib.keeps at hk
     simp only [Nat.add_one_ne_zero, false_or, Nat.add_sub_cancel, decide_eq_false_iff_not, Decidable.not_not] at hk
     have hil : i < zs.length := by omega
     have e2 : zs[i]? = some zs[j] := by
      rw [List.getElem?_eq_getElem hil]
      rw [e1, getElem!_pos _ _ (by simpa using hil)] at hk
      simpa using hk.symm
     obtain ⟨k, k1, k2, k3⟩ := ih (by omega) e2
     exact ⟨k, by omega, k2, k3⟩
  obtain ⟨k, k1, k2, k3⟩ := he j (Nat.le_refl _) (List.getElem?_eq_getElem hj)
  exact List.mem_map.2 ⟨k, List.mem_filter.2 ⟨List.mem_range.2 (by omega), k2⟩, k3⟩
theorem compact_sorted {zs : List Int} (h : zs.Pairwise (· ≤ ·)) : (Lib.compact zs).Pairwise (· < ·) := by
 unfold Lib.compact Lib.compactUpTo
 rw [List.pairwise_map]
 have hle : ∀ i j, i ≤ j → j < zs.length → zs.toArray[i]! ≤ zs.toArray[j]! := fun i j hij hj => by
  rw [getElem!_pos _ _ (by simp; omega), getElem!_pos _ _ (by simpa using hj)]
  rcases Nat.lt_or_eq_of_le hij with h1 | h1
  ·simpa using List.pairwise_iff_getElem.1 h i j (by omega) hj h1
  ·subst h1; exact Int.le_refl _
 refine List.Pairwise.imp_of_mem ?_ (List.Pairwise.filter _ List.pairwise_lt_range)
 intro i j hi hj hij
 have hj1 := List.mem_range.1 (List.mem_filter.1 hj).1
 have hk := (List.mem_filter.1 hj).2
 unfold Lib.keeps at hk
 simp only [decide_eq_true_eq] at hk
 have hne : zs.toArray[j]! ≠ zs.toArray[j - 1]! := by
  rcases hk with h1 | h1
  ·omega
  ·exact h1
 have a1 := hle i (j - 1) (by omega) (by omega)
 have a2 := hle (j - 1) j (by omega) hj1
 omega
def ruleTurnsTo (cols : List ByteArray) (col : ByteArray) (ts : List PTest) (j : Nat) : List Int := (List.range j).flatMap fun i => if sameName (cols.getD i noName) col then turnsP (ts.getD i noTest) else []
def rawTo (cols : List ByteArray) (col : ByteArray) (rs : List PRule) (j : Nat) : List Int := -1000000 :: (rs.take j).flatMap fun r => ruleTurnsTo cols col r.tests r.tests.length
def rawP (cols : List ByteArray) (col : ByteArray) (rs : List PRule) : List Int := rawTo cols col rs rs.length
def keptP (cols : List ByteArray) (col : ByteArray) (rs : List PRule) : List Int := (rawP cols col rs).filter fun n => !decide (1000000 < n)
def candP (cols : List ByteArray) (col : ByteArray) (rs : List PRule) : List Int := Lib.compact ((keptP cols col rs).mergeSort fun x y => decide (x ≤ y))
theorem ruleTurnsTo_succ (cols : List ByteArray) (col : ByteArray) (ts : List PTest) (j : Nat) : ruleTurnsTo cols col ts (j + 1) = ruleTurnsTo cols col ts j ++ (if sameName (cols.getD j noName) col then turnsP (ts.getD j noTest) else []) := by
 unfold ruleTurnsTo
 rw [List.range_succ, List.flatMap_append]
 simp
theorem rawTo_succ (cols : List ByteArray) (col : ByteArray) (rs : List PRule) {j : Nat} (h : j < rs.length) : rawTo cols col rs (j + 1) = rawTo cols col rs j ++ ruleTurnsTo cols col rs[j].tests rs[j].tests.length := by
 unfold rawTo
 rw [List.take_succ_eq_append_getElem h, List.flatMap_append]
 simp
theorem turnsP_len (t : PTest) : (turnsP t).length ≤ 2 := by
 unfold turnsP
 repeat' split
 all_goals simp
theorem ruleTurnsTo_len (cols : List ByteArray) (col : ByteArray) (ts : List PTest) : ∀ j, (ruleTurnsTo cols col ts j).length ≤ 2 * j
 | 0 => by simp [ruleTurnsTo]
 | j + 1 => by
  rw [ruleTurnsTo_succ, List.length_append]
  have h1 := ruleTurnsTo_len cols col ts j
  have h2 := turnsP_len (ts.getD j noTest)
  split
  ·omega
  ·simp; omega
theorem rawTo_len {cols : List ByteArray} {col : ByteArray} {rs : List PRule} {n : Nat} (hw : ∀ r ∈ rs, r.tests.length ≤ n) : ∀ j, j ≤ rs.length → (rawTo cols col rs j).length ≤ 1 + 2 * n * j
 | 0, _ => by simp [rawTo]
 | j + 1, h => by
  have hj : j < rs.length := by omega
  rw [rawTo_succ _ _ _ hj, List.length_append]
  have h1 := rawTo_len (cols := cols) (col := col) hw j (by omega)
  have h2 := ruleTurnsTo_len cols col rs[j].tests rs[j].tests.length
  have h3 := hw rs[j] (List.getElem_mem hj)
  rw [Nat.mul_succ]
  omega
theorem candP_mem {cols : List ByteArray} {col : ByteArray} {rs : List PRule} {x : Int} : x ∈ candP cols col rs ↔ x ∈ rawP cols col rs ∧ x ≤ 1000000 := by
 unfold candP keptP
 rw [compact_mem, List.mem_mergeSort, List.mem_filter]
 simp
theorem rawP_turn {cols : List ByteArray} {col : ByteArray} {rs : List PRule} {r : PRule} (hr : r ∈ rs) {i : Nat} (hi : i < r.tests.length) (hc : cols.getD i noName = col) {c : Int} (h : c ∈ turnsP (r.tests.getD i noTest)) : c ∈ rawP cols col rs := by
 unfold rawP rawTo
 rw [List.take_length]
 refine List.mem_cons_of_mem _ (List.mem_flatMap.2 ⟨r, hr, ?_⟩)
 unfold ruleTurnsTo
 refine List.mem_flatMap.2 ⟨i, List.mem_range.2 hi, ?_⟩
 rw [if_pos ((sameName_iff _ _).2 hc)]
 exact h
theorem turnsP_low {t : PTest} (h1 : -1000000 ≤ t.low) (h2 : -1000000 ≤ t.high) : ∀ c ∈ turnsP t, -1000000 ≤ c := by
 intro c hc
 unfold turnsP at hc
 repeat' split at hc
 all_goals (simp at hc; try omega)
theorem rawP_low {cols : List ByteArray} {col : ByteArray} {rs : List PRule} (h : ∀ r ∈ rs, ∀ t ∈ r.tests, -1000000 ≤ t.low ∧ -1000000 ≤ t.high) : ∀ c ∈ rawP cols col rs, -1000000 ≤ c := by
 intro c hc
 unfold rawP rawTo at hc
 rw [List.take_length] at hc
 rcases List.mem_cons.1 hc with e | e
 ·omega
 obtain ⟨r, hr, e⟩ := List.mem_flatMap.1 e
 unfold ruleTurnsTo at e
 obtain ⟨i, hi, e⟩ := List.mem_flatMap.1 e
 rw [List.mem_range] at hi
 split at e
 ·have ht : r.tests.getD i noTest ∈ r.tests := by
   rw [List.getD_eq_getElem?_getD, List.getElem?_eq_getElem hi]
   exact List.getElem_mem hi
  exact turnsP_low (h r hr _ ht).1 (h r hr _ ht).2 c e
 ·cases e
theorem idxFromS_case (x : ByteArray) : ∀ (zs : List ByteArray) (i : Nat), (Lib.idxFromS zs x i = -1 ∧ ∀ j, j < zs.length → zs.getD j noName ≠ x) ∨ ∃ j, j < zs.length ∧ Lib.idxFromS zs x i = ((i + j : Nat) : Int) ∧ zs.getD j noName = x
 | [], _ => Or.inl ⟨rfl, fun j hj => by simp at hj⟩
 | z :: zs, i => by
  unfold Lib.idxFromS
  by_cases h : z = x
  ·rw [if_pos h]
   exact Or.inr ⟨0, by simp, by simp, by simpa using h⟩
  ·rw [if_neg h]
   rcases idxFromS_case x zs (i + 1) with ⟨h1, h2⟩ | ⟨j, h1, h2, h3⟩
   ·refine Or.inl ⟨h1, fun j hj => ?_⟩
    cases j with
    | zero => simpa using h
    | succ j => simpa using h2 j (by simpa using hj)
   ·exact Or.inr ⟨j + 1, by simpa using h1, by rw [h2]; congr 1; omega, by simpa using h3⟩
def earlierP (cols : List ByteArray) (k : Nat) : Int := Lib.idxOfS (cols.take k) (cols.getD k noName)
theorem getD_take {cols : List ByteArray} {k j : Nat} (h : j < k) : (cols.take k).getD j noName = cols.getD j noName := by
 rw [List.getD_eq_getElem?_getD, List.getD_eq_getElem?_getD, List.getElem?_take_of_lt h]
theorem earlier_case {cols : List ByteArray} {k : Nat} (hk : k < cols.length) : (earlierP cols k = -1 ∧ ∀ j, j < k → cols.getD j noName ≠ cols.getD k noName) ∨ ∃ j : Nat, j < k ∧ earlierP cols k = (j : Int) ∧ cols.getD j noName = cols.getD k noName := by
 have hl : (cols.take k).length = k := by simp; omega
 rcases idxFromS_case (cols.getD k noName) (cols.take k) 0 with ⟨h1, h2⟩ | ⟨j, h1, h2, h3⟩
 ·exact Or.inl ⟨h1, fun j hj => by rw [← getD_take hj]; exact h2 j (by omega)⟩
 ·rw [hl] at h1
  exact Or.inr ⟨j, h1, by unfold earlierP Lib.idxOfS; rw [h2]; simp, by rw [← getD_take h1]; exact h3⟩
def choiceP (cols : List ByteArray) (rs : List PRule) (v : List Int) : List Int := if 0 ≤ earlierP cols v.length then [v.getD (earlierP cols v.length).toNat 0] else candP cols (cols.getD v.length noName) rs
def leastP (cols : List ByteArray) (rs : List PRule) (many : Bool) : Nat → List Int → Option (List Int) := searchC (wantP rs many) (choiceP cols rs)
structure InvP (cols : List ByteArray) (v : List Int) : Prop where
 range : ∀ i, i < v.length → -1000000 ≤ v.getD i 0 ∧ v.getD i 0 ≤ 1000000
 same : ∀ i j, i < v.length → j < v.length → cols.getD i noName = cols.getD j noName → v.getD i 0 = v.getD j 0
theorem InvP.nil (cols : List ByteArray) : InvP cols [] := ⟨fun _ h => by simp at h, fun _ _ h => by simp at h⟩
theorem InvP.app {cols : List ByteArray} {v : List Int} {y : Int} (h : InvP cols v) (hf : fitP cols v y) : InvP cols (v ++ [y]) := by
 have hcase : ∀ i, i < (v ++ [y]).length → (i < v.length ∧ (v ++ [y]).getD i 0 = v.getD i 0) ∨ (i = v.length ∧ (v ++ [y]).getD i 0 = y) := fun i hi => by
  rcases Nat.lt_or_ge i v.length with hlt | hge
  ·exact Or.inl ⟨hlt, getD_app_lt hlt⟩
  ·have hie : i = v.length := by simp at hi; omega
   exact Or.inr ⟨hie, by rw [hie]; exact getD_app_at v y⟩
 constructor
 ·intro i hi
  rcases hcase i hi with ⟨h1, h2⟩ | ⟨h1, h2⟩
  ·rw [h2]; exact h.range i h1
  ·rw [h2]; exact ⟨hf.1, hf.2.1⟩
 ·intro i j hi hj he
  rcases hcase i hi with ⟨h1, h2⟩ | ⟨h1, h2⟩ <;> rcases hcase j hj with ⟨g1, g2⟩ | ⟨g1, g2⟩
  ·rw [h2, g2]; exact h.same i j h1 g1 he
  ·rw [h2, g2]; exact hf.2.2 i h1 (by rw [← g1]; exact he)
  ·rw [h2, g2]; exact (hf.2.2 j g1 (by rw [← h1]; exact he.symm)).symm
  ·rw [h2, g2]
theorem sorted_le (l : List Int) : (l.mergeSort fun x y => decide (x ≤ y)).Pairwise (· ≤ ·) := by
 have := List.pairwise_mergeSort (le := fun x y : Int => decide (x ≤ y)) (fun a b c h1 h2 => by simp at h1 h2 ⊢; omega) (fun a b => by simp; omega) l
 exact this.imp fun h => by simpa using h
theorem good_least {cols : List ByteArray} {rs : List PRule} {many : Bool} (hl : ∀ r ∈ rs, ∀ t ∈ r.tests, -1000000 ≤ t.low ∧ -1000000 ≤ t.high) : GoodC (wantP rs many) (fitP cols) (choiceP cols rs) (InvP cols) cols.length where
 sorted := fun v _ _ => by
  unfold choiceP
  split
  ·simp
  ·exact compact_sorted (sorted_le _)
 fits := fun v hi hk y hy => by
  have hf : fitP cols v y := by
   unfold choiceP at hy
   rcases earlier_case hk with ⟨h1, h2⟩ | ⟨j, h1, h2, h3⟩
   ·rw [h1, if_neg (by decide), candP_mem] at hy
    exact ⟨rawP_low hl y hy.1, hy.2, fun i hlt he => absurd he (h2 i hlt)⟩
   ·rw [h2, if_pos (by omega), Int.toNat_natCast, List.mem_singleton] at hy
    rw [hy]
    exact ⟨(hi.range j h1).1, (hi.range j h1).2, fun i hlt he => hi.same i j hlt h1 (by rw [he, h3])⟩
  exact ⟨hf, hi.app hf⟩
 enough := fun d v y hi hk hf he => by
  have hk' : v.length < cols.length := by omega
  unfold choiceP
  rcases earlier_case hk' with ⟨h1, h2⟩ | ⟨j, h1, h2, h3⟩
  ·rw [h1, if_neg (by decide)]
   refine enough_new h2 (candP_mem.2 ⟨List.mem_cons_self, by decide⟩) (fun c hc => ?_) (fun r hr i hlt hc c hct hle => Or.inl (candP_mem.2 ⟨rawP_turn hr hlt hc hct, hle⟩)) hf he
   have := candP_mem.1 hc
   exact ⟨rawP_low hl c this.1, this.2⟩
  ·rw [h2, if_pos (by omega), Int.toNat_natCast]
   have hy := hf.2.2 j h1 h3
   exact ⟨_, List.mem_singleton.2 rfl, by omega, by rw [hy]; exact he⟩
end Go.Proofs.YthnggjaecngbiaaGreatDoor
