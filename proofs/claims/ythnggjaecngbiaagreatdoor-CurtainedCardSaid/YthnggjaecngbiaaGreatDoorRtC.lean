import Derived.Test.YthnggjaecngbiaaGreatDoorRtB
namespace Go.Proofs.YthnggjaecngbiaaGreatDoor
open Go.RowKit

theorem joinTail_cons (x : List UInt8) (r : List (List UInt8)) : Lib.joinTail [44] (x :: r) = [44] ++ x ++ Lib.joinTail [44] r := by
  simp [Lib.joinTail]
theorem Tl.cols {s : ByteArray} : ∀ (cs : List ByteArray) {k f : Nat} {acc : List ByteArray} {b : List UInt8}, Tl s k (Lib.joinTail [44] (cs.map fun x => x.data.toList) ++ (41 :: b)) → (∀ c ∈ cs, NameOK c) → cs.length < f → colsR s f k acc = .inr (acc ++ cs, k + (Lib.joinTail [44] (cs.map fun x => x.data.toList)).length + 1)
  | [], k, f, acc, b, h, hc, hf => by
    obtain ⟨f, rfl⟩ : ∃ g, f = g + 1 := ⟨f - 1, by omega⟩
    simp [Lib.joinTail] at h ⊢
    have e1 : nextP s k = k := h.next rfl
    have e2 : inR s k 44 44 = false := h.rng _ _
    have e3 : inR s k 41 41 = true := h.rng _ _
    rw [colsR, e1, e2, e3]
    simp
  | c :: cs, k, f, acc, b, h, hc, hf => by
    obtain ⟨f, rfl⟩ : ∃ g, f = g + 1 := ⟨f - 1, by omega⟩
    rw [List.map_cons, joinTail_cons] at h ⊢
    simp only [List.append_assoc] at h
    simp at hf
    have e1 : nextP s k = k := Tl.next h rfl
    have e2 : inR s k 44 44 = true := Tl.rng h _ _
    have e3 := (Tl.cons h).name (hc c (by simp)) (by cases cs <;> rfl)
    have e4 := Tl.app (a := c.data.toList) (Tl.cons h)
    have e5 := Tl.cols cs (f := f) (acc := acc ++ [c]) (b := b) e4 (fun x hx => hc x (by simp [hx])) (by omega)
    rw [colsR, e1, e2, if_pos rfl, e3]
    have : c.data.toList.length = c.size := by simp
    rw [this] at e5
    simp only [e5]
    simp
    omega
theorem joinOut_cons (c : ByteArray) (cs : List ByteArray) : joinOut (c :: cs) = c.data.toList ++ Lib.joinTail [44] (cs.map fun x => x.data.toList) := by
  unfold joinOut
  rw [List.map_cons, Lib.join_cons]
theorem joinTail_len : ∀ (cs : List ByteArray), cs.length ≤ (Lib.joinTail [44] (cs.map fun x => x.data.toList)).length
  | [] => by simp
  | c :: cs => by
    have := joinTail_len cs
    rw [List.map_cons, joinTail_cons]
    simp; omega
theorem Tl.columns {s : ByteArray} {k : Nat} {cs : List ByteArray} {b : List UInt8} (h : Tl s k ([40] ++ joinOut cs ++ [41] ++ b)) (hne : cs ≠ []) (hc : ∀ c ∈ cs, NameOK c) : columnsR s k = .inr (cs, k + ([40] ++ joinOut cs ++ [41]).length) := by
  have hl := h.size
  cases cs with
  | nil => exact absurd rfl hne
  | cons c cs =>
    rw [joinOut_cons] at h hl ⊢
    simp only [List.append_assoc] at h
    have e1 : nextP s k = k := Tl.next h rfl
    have e2 : inR s k 40 40 = true := Tl.rng h _ _
    have e3 := (Tl.cons h).name (hc c (by simp)) (by cases cs <;> rfl)
    have e4 := Tl.app (a := c.data.toList) (Tl.cons h)
    have hj := joinTail_len cs
    have : c.data.toList.length = c.size := by simp
    simp [this] at hl
    rw [this] at e4
    have e5 := Tl.cols cs (f := s.size + 1 - (k + 1 + c.size)) (acc := [c]) (b := b) e4 (fun x hx => hc x (by simp [hx])) (by omega)
    unfold columnsR
    rw [e1, e2, if_pos rfl, e3]
    simp only [e5]
    simp
    omega
theorem rulesOut_n : ∀ (rs : List PRule), rs.length ≤ (rs.flatMap ruleOut).length
  | [] => by simp
  | r :: rs => by
    have := rulesOut_n rs
    rw [List.flatMap_cons, List.length_append, List.length_cons]
    simp only [ruleOut, List.length_append, List.length_singleton]
    omega
theorem Tl.body {s : ByteArray} {k : Nat} {rs : List PRule} {it : PItem} {b : List UInt8} (h : Tl s k ([123] ++ rs.flatMap ruleOut ++ [125] ++ b)) (hr : ∀ r ∈ rs, CanR r) : bodyR s k it = .inr ({ it with rules := it.rules ++ rs }, k + ([123] ++ rs.flatMap ruleOut ++ [125]).length) := by
  have hl := h.size
  simp only [List.append_assoc] at h
  have e1 : nextP s k = k := Tl.next h rfl
  have e2 : inR s k 123 123 = true := Tl.rng h _ _
  have hn := rulesOut_n rs
  simp at hl
  have e3 := Tl.rules rs (f := s.size + 1 - (k + 1)) (it := it) (b := b) (Tl.cons h) hr (by simp at hn ⊢; omega)
  unfold bodyR
  rw [e1, e2, if_pos rfl, e3]
  simp
  omega
theorem marksOut_pos {c : Int} {m : Nat} (h : m ≠ 0) : marksOut c m = u8 c :: markOut m 3 := by unfold marksOut; rw [if_neg h]; rfl
theorem Tl.drops {s : ByteArray} {k d : Nat} {rs : List PRule} {it : PItem} {b : List UInt8} (h : Tl s k (marksOut 92 d ++ ([123] ++ rs.flatMap ruleOut ++ [125] ++ b))) (hi : it.drops = 0) (hd : d ≤ 7) (hr : ∀ r ∈ rs, CanR r) : dropsR s k it = .inr ({ it with drops := d, rules := it.rules ++ rs }, k + (marksOut 92 d ++ ([123] ++ rs.flatMap ruleOut ++ [125])).length) := by
  by_cases hz : d = 0
  · subst hz
    have h' : Tl s k ([123] ++ rs.flatMap ruleOut ++ [125] ++ b) := h
    have e1 : nextP s k = k := by simp only [List.append_assoc] at h'; exact Tl.next h' rfl
    have e2 : inR s k 92 92 = false := by simp only [List.append_assoc] at h'; exact Tl.rng h' _ _
    unfold dropsR
    rw [e1, e2, if_neg (by simp), Tl.body h' hr]
    obtain ⟨a0, a1, a2, a3, a4, a5, a6⟩ := it
    simp only at hi
    subst hi
    rfl
  · rw [marksOut_pos hz] at h ⊢
    have e1 : nextP s k = k := Tl.next h rfl
    have e2 : inR s k 92 92 = true := Tl.rng h _ _
    have e3 := (Tl.cons h).marks (by omega) hd rfl
    have e4 := Tl.body (it := { it with drops := d }) (Tl.cons h).app hr
    unfold dropsR
    rw [e1, e2, if_pos rfl, e3]
    simp only [e4]
    simp
    omega
theorem isPol_byte {c : Int} (h : isPol c = true) : ((u8 c).toNat : Int) = c ∧ isBlank c = false := by
  unfold isPol at h
  simp at h
  rcases h with h | h | h | h | h <;> subst h <;> exact ⟨rfl, rfl⟩
theorem Tl.table {s : ByteArray} {k : Nat} {it : PItem} {b : List UInt8} (h : Tl s k (32 :: it.name.data.toList ++ [32] ++ [u8 it.policy] ++ [40] ++ joinOut it.cols ++ [41] ++ marksOut 92 it.drops ++ [123] ++ it.rules.flatMap ruleOut ++ [125] ++ b)) (hc : CanTab it) :
    tableR s k = .inr (it, k + (32 :: it.name.data.toList ++ [32] ++ [u8 it.policy] ++ [40] ++ joinOut it.cols ++ [41] ++ marksOut 92 it.drops ++ [123] ++ it.rules.flatMap ruleOut ++ [125]).length) := by
  simp only [List.append_assoc, List.cons_append] at h
  have e1 := (Tl.cons h).name hc.name rfl
  have e2 := Tl.blank h rfl
  have e4 := (Tl.cons h).app
  have hp := isPol_byte hc.pol
  have e5 : nextP s (k + 1 + it.name.data.toList.length) = nextP s (k + 1 + it.name.data.toList.length + 1) := Tl.blank e4 rfl
  have e6 := Tl.cons e4
  have e7 : nextP s (k + 1 + it.name.data.toList.length + 1) = k + 1 + it.name.data.toList.length + 1 := Tl.next e6 (by show isBlank ((u8 it.policy).toNat : Int) = false; rw [hp.1]; exact hp.2)
  have e8 : byteAt s (k + 1 + it.name.data.toList.length + 1) = it.policy := (Tl.byte e6).trans hp.1
  have e9 := Tl.cons e6
  have hz : it.name.data.toList.length = it.name.size := by simp
  rw [hz] at e4 e5 e6 e7 e8 e9
  have f1 := Tl.columns (cs := it.cols) (b := marksOut 92 it.drops ++ ([123] ++ it.rules.flatMap ruleOut ++ [125] ++ b)) (by simp only [List.append_assoc]; exact e9) hc.ne hc.cols
  have f2 := Tl.app (a := [40] ++ joinOut it.cols ++ [41]) (b := marksOut 92 it.drops ++ ([123] ++ it.rules.flatMap ruleOut ++ [125] ++ b)) (by simp only [List.append_assoc]; exact e9)
  have f3 := Tl.drops (it := ⟨it.name, true, 0, it.policy, it.cols, 0, []⟩) f2 rfl hc.drops hc.rules
  unfold tableR
  rw [nameT_next e2, e1]
  simp only [policyR, e5, e7, e8, hc.pol, if_true, f1, f3]
  have g1 := hc.isT
  have g2 := hc.marks
  obtain ⟨a0, a1, a2, a3, a4, a5, a6⟩ := it
  simp only at g1 g2 hz ⊢
  subst g1 g2
  simp only [List.nil_append, Sum.inr.injEq, Prod.mk.injEq, true_and]
  simp
  omega
theorem Tl.input {s : ByteArray} {k : Nat} {it : PItem} {b : List UInt8} (h : Tl s k (32 :: it.name.data.toList ++ marksOut 47 it.marks ++ [59] ++ b)) (hc : CanIn it) :
    inputR s k = .inr (it, k + (32 :: it.name.data.toList ++ marksOut 47 it.marks ++ [59]).length) := by
  have hz : it.name.data.toList.length = it.name.size := by simp
  have g1 := hc.isT
  have g2 := hc.pol
  have g3 := hc.cols
  have g4 := hc.drops
  have g5 := hc.rules
  have hn := hc.name
  have hm := hc.marks
  obtain ⟨a0, a1, a2, a3, a4, a5, a6⟩ := it
  simp only at g1 g2 g3 g4 g5 hz hn hm h ⊢
  subst g1 g2 g3 g4 g5
  simp only [List.append_assoc, List.cons_append] at h
  have e1 := (Tl.cons h).name hn (by unfold marksOut; split <;> rfl)
  have e2 := Tl.blank h rfl
  have e4 := (Tl.cons h).app
  rw [hz] at e4
  unfold inputR
  rw [nameT_next e2, e1]
  simp only
  by_cases hz0 : a2 = 0
  · subst hz0
    have e5 : nextP s (k + 1 + a0.size) = k + 1 + a0.size := Tl.next e4 rfl
    have e6 : inR s (k + 1 + a0.size) 47 47 = false := Tl.rng e4 _ _
    have e7 : inR s (k + 1 + a0.size) 59 59 = true := Tl.rng e4 _ _
    rw [e5, e6]
    simp only [endIn, e5, e7]
    simp [marksOut]
    omega
  · rw [marksOut_pos hz0] at e4 ⊢
    have e5 : nextP s (k + 1 + a0.size) = k + 1 + a0.size := Tl.next e4 rfl
    have e6 : inR s (k + 1 + a0.size) 47 47 = true := Tl.rng e4 _ _
    have e7 := (Tl.cons e4).marks (by omega) hm rfl
    have e8 := (Tl.cons e4).app
    have e9 := Tl.next e8 rfl
    have f1 : inR s (k + 1 + a0.size + 1 + (markOut a2 3).length) 59 59 = true := Tl.rng e8 _ _
    rw [e5, e6, if_pos rfl, e7]
    simp only [endIn, e9, f1]
    simp
    omega
/-- An item without the end of its line. -/
def itemOut0 (it : PItem) : List UInt8 := if it.isT then tableOut it else inputOut it
theorem Tl.item {s : ByteArray} {k : Nat} {it : PItem} {b : List UInt8} (h : Tl s k (itemOut0 it ++ b)) (hc : CanI it) : itemR s k = .inr (it, k + (itemOut0 it).length) ∧ nextP s k = k := by
  rcases hc with hc | hc
  · have g := hc.isT
    unfold itemOut0 at h ⊢
    rw [g, if_neg (by simp)] at h ⊢
    unfold inputOut at h ⊢
    have h' : Tl s k ([105, 110] ++ (32 :: it.name.data.toList ++ marksOut 47 it.marks ++ [59] ++ b)) := by simpa using h
    have e1 : nextP s k = k := Tl.next h' rfl
    obtain ⟨e2, e3⟩ := Tl.low (x := ⟨#[105, 110]⟩) h' (by decide) rfl
    have e4 := h'.app
    have e5 := Tl.input e4 hc
    unfold itemR
    rw [e1, e3, e2, ByteArray.toList_eq, if_pos (by rfl)]
    refine ⟨?_, rfl⟩
    have : k + ByteArray.size ⟨#[105, 110]⟩ = k + [(105 : UInt8), 110].length := rfl
    rw [this, e5]
    simp
    omega
  · have g := hc.isT
    unfold itemOut0 at h ⊢
    rw [g, if_pos rfl] at h ⊢
    unfold tableOut at h ⊢
    have h' : Tl s k ([116, 97, 98, 108, 101] ++ (32 :: it.name.data.toList ++ [32] ++ [u8 it.policy] ++ [40] ++ joinOut it.cols ++ [41] ++ marksOut 92 it.drops ++ [123] ++ it.rules.flatMap ruleOut ++ [125] ++ b)) := by simpa using h
    have e1 : nextP s k = k := Tl.next h' rfl
    obtain ⟨e2, e3⟩ := Tl.low (x := ⟨#[116, 97, 98, 108, 101]⟩) h' (by decide) rfl
    have e4 := h'.app
    have e5 := Tl.table e4 hc
    unfold itemR
    rw [e1, e3, e2, ByteArray.toList_eq, if_neg (by decide), if_pos (by rfl)]
    refine ⟨?_, rfl⟩
    have : k + ByteArray.size ⟨#[116, 97, 98, 108, 101]⟩ = k + [(116 : UInt8), 97, 98, 108, 101].length := rfl
    rw [this, e5]
    simp
    omega
theorem itemR_next {s : ByteArray} {k m : Nat} (h : nextP s k = nextP s m) : itemR s k = itemR s m := by unfold itemR; rw [h]
theorem itemOut0_len (it : PItem) : 1 ≤ (itemOut0 it).length := by
  unfold itemOut0 tableOut inputOut
  split <;> simp <;> omega
/-- Items one behind the other, blanks or nothing behind each. -/
def Blanks (l : List UInt8) : Prop := ∀ c ∈ l, isBlank (c.toNat : Int) = true
theorem Tl.blanks {s : ByteArray} : ∀ {l b : List UInt8} {k : Nat}, Tl s k (l ++ b) → Blanks l → isBlank (headB b) = false → nextP s k = k + l.length
  | [], b, k, h, _, hb => h.next hb
  | c :: l, b, k, h, hl, hb => by
    rw [Tl.blank h (hl c (by simp)), Tl.blanks (l := l) (b := b) (Tl.cons h) (fun x hx => hl x (by simp [hx])) hb]
    simp; omega
theorem itemOut0_head {it : PItem} (_hc : CanI it) (b : List UInt8) : isBlank (headB (itemOut0 it ++ b)) = false := by
  unfold itemOut0 tableOut inputOut
  split <;> rfl
theorem Tl.items {s : ByteArray} : ∀ (ps : List (PItem × List UInt8)) {k f : Nat} {l : List UInt8} {acc : List PItem}, Tl s k (l ++ ps.flatMap (fun p => itemOut0 p.1 ++ p.2)) → Blanks l → (∀ p ∈ ps, CanI p.1 ∧ Blanks p.2) → ps.length < f → itemsR s f k acc = .inr (acc ++ ps.map Prod.fst)
  | [], k, f, l, acc, h, hl, hp, hf => by
    obtain ⟨f, rfl⟩ : ∃ g, f = g + 1 := ⟨f - 1, by omega⟩
    have hs := h.size
    have e1 : nextP s k = k + l.length := Tl.blanks (b := []) h hl rfl
    rw [itemsR, e1, if_pos (by simpa using hs)]
    simp
  | (it, bl) :: ps, k, f, l, acc, h, hl, hp, hf => by
    obtain ⟨f, rfl⟩ : ∃ g, f = g + 1 := ⟨f - 1, by omega⟩
    have hs := h.size
    simp at hf hs
    simp only [List.flatMap_cons, List.append_assoc] at h
    obtain ⟨hc, hb⟩ := hp (it, bl) (by simp)
    have e1 : nextP s k = k + l.length := Tl.blanks h hl (itemOut0_head hc _)
    have e2 := h.app
    have e3 := Tl.item e2 hc
    have hn := itemOut0_len it
    have e4 := Tl.items ps (f := f) (acc := acc ++ [it]) e2.app hb (fun p q => hp p (by simp [q])) (by omega)
    rw [itemsR, e1, if_neg (by omega), e3.1]
    simp only [e4]
    simp
theorem planR_of_out {s : ByteArray} (ps : List (PItem × List UInt8)) (h : s.data.toList = ps.flatMap (fun p => itemOut0 p.1 ++ p.2)) (hp : ∀ p ∈ ps, CanI p.1 ∧ Blanks p.2) : planR s = .inr (ps.map Prod.fst) := by
  have hl : ps.length ≤ s.data.toList.length := by
    rw [h]
    clear h hp
    induction ps with
    | nil => simp
    | cons p ps ih =>
      have := itemOut0_len p.1
      simp at ih ⊢; omega
  unfold planR
  have := Tl.items (s := s) ps (k := 0) (f := s.size + 1) (l := []) (acc := []) ⟨by omega, by simpa using h⟩ (fun c hc => by simp at hc) hp (by simp at hl; omega)
  simpa using this
theorem planR_plain {its : List PItem} (h : ∀ it ∈ its, CanI it) : planR ⟨(planOut its).toArray⟩ = .inr its := by
  have := planR_of_out (s := ⟨(planOut its).toArray⟩) (its.map fun it => (it, [10])) (by
    simp only [planOut, List.flatMap_map]
    rfl) (fun p hp => by
    rw [List.mem_map] at hp
    obtain ⟨it, hi, rfl⟩ := hp
    exact ⟨h it hi, fun c hc => by simp at hc; subst hc; rfl⟩)
  rw [this, List.map_map]
  congr 1
  exact List.map_id _
end Go.Proofs.YthnggjaecngbiaaGreatDoor
