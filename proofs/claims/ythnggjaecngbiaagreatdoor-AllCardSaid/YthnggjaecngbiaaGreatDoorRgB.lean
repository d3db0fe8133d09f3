import Derived.Test.YthnggjaecngbiaaGreatDoorRfM
import Derived.Test.YthnggjaecngbiaaGreatDoorMdB
import Derived.Test.YthnggjaecngbiaaGreatDoorLgA
import Derived.Test.YthnggjaecngbiaaGreatDoorExC
import Derived.Test.YthnggjaecngbiaaGreatDoorCkA
import Derived.Test.YthnggjaecngbiaaGreatDoorEvJ
namespace Go.Proofs.YthnggjaecngbiaaGreatDoor
open Go.RowKit
theorem parse_planOf (s : ByteArray) : parseR s = planOf s := rfl
theorem parse_inr {s : ByteArray} {its : List PItem} (h : parseR s = .inr its) : planR s = .inr its ∧ s.size ≤ 1000 := by
 unfold parseR at h
 split at h
 ·cases h
 ·rename_i hs
  split at h
  ·cases h
  ·rename_i its' hp
   split at h
   ·simp only [Sum.inr.injEq] at h
    subst h
    exact ⟨hp, by omega⟩
   ·cases h
theorem can_pol {it : PItem} (h : CanI it) : (it.isT = true ∧ it.policy ≠ 0) ∨ (it.isT = false ∧ it.policy = 0) := by
 rcases h with h | h
 ·exact Or.inr ⟨h.isT, h.pol⟩
 ·refine Or.inl ⟨h.isT, ?_⟩
  have := h.pol
  unfold isPol at this
  simp only [decide_eq_true_eq] at this
  omega
def RPlanAt (w : World) (g : Nat) (its : List PItem) : Prop :=
 ∃ v xs, w.heap[g]? = some (.cells #[v] 143) ∧ RItemsV w v xs ∧ xs.map LItem.it = its ∧ (∀ x ∈ xs, WfI x.it) ∧ OkPlan its
theorem RPlanAt.below {w w' : World} {g : Nat} {its : List PItem} (h : RPlanAt w g its) (b : Below w.heap.size w w') : RPlanAt w' g its := by
 obtain ⟨v, xs, h1, h2, h3⟩ := h
 exact ⟨v, xs, (b.block g (lt_of_block h1)).trans h1, ⟨h2.1.below b, fun x hx => (h2.2 x hx).below b⟩, h3⟩
def ROwn (w : World) (g : Nat) (its : List PItem) : Prop :=
 ∃ v xs base, w.heap[g]? = some (.cells #[v] 143) ∧ RItemsAt base w v xs ∧ xs.map LItem.it = its ∧ (∀ x ∈ xs, WfI x.it) ∧ OkPlan its
theorem ROwn.plan {w : World} {g : Nat} {its : List PItem} (h : ROwn w g its) : RPlanAt w g its := by
 obtain ⟨v, xs, base, h1, h2, h3⟩ := h
 exact ⟨v, xs, h1, RItemsV.of_at h2, h3⟩
set_option maxRecDepth 100000 in
set_option maxHeartbeats 800000 in
theorem rplace_any (v : Value) (xs : List LItem) (nm : ByteArray) (w : World) (hv : RItemsV w v xs) (hl : xs.length ≤ 100000) :
  Calls Tryz.prog 78 #[v, .string nm] w fun e w' => e = .returned (.int .i64 (placeP (xs.map LItem.it) nm)) ∧ Below w.heap.size w w' := by
 obtain ⟨ao, cap, rfl⟩ := hv.1.form
 have HV := hide hv
 clear hv
 go_enter Tryz.func78, Tryz.ntmps78
 go_wp2_with fail
 go_loopg [5] xs.length (fun g i wr => ∃ j : Nat, j ≤ xs.length ∧ g = xs.length - j ∧ i = .int .i64 (j : Int) ∧ (xs.take j).any (fun x => sameName x.it.name nm) = false ∧ Below w.heap.size w wr)
 case atStart => exact ⟨0, by omega, rfl, rfl, by simp, Below.refl _ _⟩
 case round =>
  obtain ⟨j, hj, hg, rfl, hno, hb⟩ := hrel
  have A : Aside (gk = xs.length - j ∧ (xs.take j).any (fun x => sameName x.it.name nm) = false ∧ Below w.heap.size w wr) := ⟨hg, hno, hb⟩
  clear hg hno
  by_cases hlt : j < xs.length
  ·rcases (uh HV).1 with ⟨h0, _⟩ | ⟨g, cap', hv, hc, hm, hgl, hx⟩
   ·omega
   simp only [Value.slice.injEq] at hv
   obtain ⟨rfl, _, rfl⟩ := hv
   have key : ∀ i, i < 6 → wr.cell? ⟨g, j * 6 + i, none⟩ = (ritCells xs[j])[i]? := fun i hi => by
    rw [hb.cell (p := ⟨g, j * 6 + i, none⟩) hgl, hx _ (by omega)]
    exact flat_at ritCells 6 (fun _ => rfl) xs j i hlt hi
   have k0 := key 0 (by omega)
   simp only [ritCells, ricells, List.getElem?_cons_zero, Nat.add_zero] at k0
   have HT := hide (any_take_succ (fun x => sameName x.it.name nm) xs j hlt)
   have HH := hide (fun h1 h2 => placeP_hit (xs := xs) (nm := nm) hlt h1 h2)
   have hjc : (j : Int) < xs.length := by omega
   have hjcap : (j : Int) < cap := by omega
   generalize xs[j] = x at *
   clear key hx hb hc hgl
   cases hp : sameName x.it.name nm with
   | true =>
    have hp2 : (x.it.name.toList == nm.toList) = true := hp
    have HP := hide hp
    clear hp
    go_wp2_with fail
    go_ret
    refine ⟨?_, A.out.2.2⟩
    rw [uh HH A.out.2.1 (uh HP)]
    rfl
   | false =>
    have hp2 : (x.it.name.toList == nm.toList) = false := hp
    have HP := hide hp
    clear hp
    go_wp2_with fail
    go_roundg (xs.length - (j + 1))
    case measure => have := A.out.1; omega
    case rel => exact ⟨j + 1, by omega, rfl, by go_num, by rw [uh HT, A.out.2.1, uh HP]; rfl, A.out.2.2⟩
  ·have hje : j = xs.length := by omega
   have hjc : ¬ (j : Int) < xs.length := by omega
   have HE : Hid (placeP (xs.map LItem.it) nm = -1) := hide (placeP_miss (by have := A.out.2.1; rw [hje, List.take_length] at this; exact this))
   clear hje hb
   go_wp2_with fail
   go_ret
   refine ⟨?_, A.out.2.2⟩
   rw [uh HE]
   rfl
def RNewOwn (s : ByteArray) (w : World) (e : Ending) (w' : World) : Prop :=
 (∃ n ce, planOf s = .inl (n, ce) ∧ e = .returned (.tuple #[.pointer none, .int .i64 ce]) ∧ Below w.heap.size w w') ∨
 (∃ its g, planOf s = .inr its ∧ e = .returned (.tuple #[.pointer (some ⟨g, 0, none⟩), .int .i64 0]) ∧ Below w.heap.size w w' ∧ w.heap.size ≤ g ∧ ROwn w' g its)
theorem planOf_ne {s : ByteArray} {n : Nat} {e : Int} (h : planOf s = .inl (n, e)) : (e != 0) = true := by
 unfold planOf at h
 split at h
 ·simp only [Sum.inl.injEq, Prod.mk.injEq] at h
  rw [← h.2]; rfl
 ·split at h
  ·simp only [Sum.inl.injEq, Prod.mk.injEq] at h
   rw [← h.2]; rfl
  ·split at h
   ·cases h
   ·rename_i hc
    simp only [Sum.inl.injEq, Prod.mk.injEq] at h
    rw [← h.2]
    simpa using hc
set_option maxRecDepth 100000 in
set_option maxHeartbeats 800000 in
theorem rnew_own (s : ByteArray) (w : World) : Calls Tryz.prog 55 #[.string s] w (RNewOwn s w) := by
 go_enter Tryz.func55, Tryz.ntmps55
 go_wp2_with fail
 refine (rparse_any s _).mono ?_
 rintro e w1 (⟨n, en, hp, rfl, hb1⟩ | ⟨xs, v, hp, rfl, hb1, bs, hva⟩)
 ·rw [parse_planOf] at hp
  have hne := planOf_ne hp
  have HF := hide hp
  have HB := hide hb1
  clear hp hb1
  go_wp2_with fail
  go_ret2
  exact Or.inl ⟨n, en, uh HF, rfl, uh HB⟩
 ·obtain ⟨hpr, hs⟩ := parse_inr hp
  rw [parse_planOf] at hp
  have hwf := planR_wf hs hpr
  have HW : Hid (∀ x ∈ xs, WfI x.it) := hide (fun x hx => hwf.2 x.it (List.mem_map.2 ⟨x, hx, rfl⟩))
  have HOK := hide (planOf_ok hp)
  have HF := hide hp
  have hba : Below w1.heap.size w1 (w1.alloc (.cells #[v] 143)) := (Below.refl _ w1).alloc (Nat.le_refl _) _
  have HB := hide (below_after hb1 hba)
  have HVA := hide (hva.below hba)
  have HN := hide (alloc_last w1 (.cells #[v] 143))
  have HS := hide hb1.size
  obtain ⟨ao, cap, rfl⟩ := (RItemsV.of_at hva).1.form
  clear hp hb1 hpr hwf hva hba hs
  go_wp2_with fail
  go_ret2
  exact Or.inr ⟨_, w1.heap.size, uh HF, rfl, uh HB, uh HS, _, xs, bs, uh HN, uh HVA, rfl, uh HW, uh HOK⟩
end Go.Proofs.YthnggjaecngbiaaGreatDoor
namespace Go.Proofs.YthnggjaecngbiaaGreatDoor
open Go.RowKit
def wty : Nat → TypeId
 | 0 => 105
 | 1 => 25
 | 2 => 47
 | 3 => 25
 | _ => 3
def wsz : Nat → Nat
 | 0 => 2
 | _ => 1
structure Hist where
 ps : List (Nat × Nat × List PItem)
 ns : List (Value × Nat × Int)
 vs : List (Value × Nat × Int)
 ls : List (Value × Nat)
def mI (m : Int) : List Value := [.int .i64 m]
def mV (m : Int) : List Value := [.int .i64 m, .int .i64 m]
structure Still (w : World) (h : Hist) : Prop where
 ps : ∀ p ∈ h.ps, PlanAt w p.1 p.2.2 ∧ RPlanAt w p.2.1 p.2.2
 ns : ∀ x ∈ h.ns, w.ownsRow 0 3 1 x.1 x.2.1 (repL (mI x.2.2) x.2.1)
 vs : ∀ x ∈ h.vs, w.ownsRow 0 51 2 x.1 x.2.1 (repL (mV x.2.2) x.2.1)
 ls : ∀ x ∈ h.ls, w.ownsRow 0 3 1 x.1 x.2 (repL (mI (-99)) x.2)
def rowX (h : Hist) : Nat → List Value
 | 0 => h.ps.flatMap fun p => [.pointer (some ⟨p.1, 0, none⟩), .pointer (some ⟨p.2.1, 0, none⟩)]
 | 1 => h.ns.map fun x => x.1
 | 2 => h.vs.map fun x => x.1
 | 3 => h.ls.map fun x => x.1
 | 4 => h.ns.map fun x => .int .i64 x.2.2
 | _ => h.vs.map fun x => .int .i64 x.2.2
def LawG (w : World) (g : Nat) (rx : Nat → List Value) (h : Hist) (X F : Nat → Prop) (r : Nat → LRow) : Prop :=
 Six wty wsz 79 w g F r ∧ (∀ i, i < 6 → (r i).xs = rx i) ∧ (∀ w', w.heap.size ≤ w'.heap.size → (∀ j, F j → w'.heap[j]? = w.heap[j]?) → Still w' h) ∧
 ∀ j, X j → j < w.heap.size ∧ ¬ F j ∧ j ≠ g ∧ ∀ i, i < 6 → (r i).v.ownBlock ≠ some j
def LawAt (w : World) (g : Nat) (h : Hist) (X : Nat → Prop) : Prop := ∃ F r, LawG w g (rowX h) h X F r
theorem LawAt.still {w : World} {g : Nat} {h : Hist} {X : Nat → Prop} (k : LawAt w g h X) : Still w h := by
 obtain ⟨F, r, _, _, h3, _⟩ := k
 exact h3 w (Nat.le_refl _) (fun _ _ => rfl)
theorem LawAt.below {w w' : World} {g : Nat} {h : Hist} {X : Nat → Prop} (k : LawAt w g h X) (b : Below w.heap.size w w') : LawAt w' g h (fun j => X j ∨ (w.heap.size ≤ j ∧ j < w'.heap.size)) := by
 obtain ⟨F, r, h1, h2, h3, h4⟩ := k
 refine ⟨F, r, h1.below b, h2, fun w'' hs hF => h3 w'' (Nat.le_trans b.size hs) (fun j hj => (hF j hj).trans (b.block j (h1.lt j hj))), ?_⟩
 rintro j (hj | ⟨hj1, hj2⟩)
 ·obtain ⟨a1, a2⟩ := h4 j hj
  exact ⟨Nat.lt_of_lt_of_le a1 b.size, a2⟩
 ·refine ⟨hj2, fun hf => ?_, ?_, fun i hi hb => ?_⟩
  ·have := h1.lt j hf
   omega
  ·have := lt_of_block h1.blk
   omega
  ·have := h1.row_lt hi hb
   omega
theorem LawAt.weaken {w : World} {g : Nat} {h : Hist} {X Y : Nat → Prop} (k : LawAt w g h X) (hy : ∀ j, Y j → X j) : LawAt w g h Y := by
 obtain ⟨F, r, h1, h2, h3, h4⟩ := k
 exact ⟨F, r, h1, h2, h3, fun j hj => h4 j (hy j hj)⟩
theorem LawAt.wrote {w w' : World} {g : Nat} {h : Hist} {X : Nat → Prop} (k : LawAt w g h X) (hs : w.heap.size ≤ w'.heap.size) (hb : ∀ j, j < w.heap.size → ¬ X j → w'.heap[j]? = w.heap[j]?) : LawAt w' g h X := by
 obtain ⟨F, r, h1, h2, h3, h4⟩ := k
 refine ⟨F, r, h1.apart hs ?_, h2, fun w'' hs2 hF => h3 w'' (Nat.le_trans hs hs2) (fun j hj => (hF j hj).trans (hb j (h1.lt j hj) (fun hx => (h4 j hx).2.1 hj))), fun j hj => ?_⟩
 ·rintro j hj (rfl | ⟨i, hi, he⟩)
  ·exact hb j hj (fun hx => (h4 j hx).2.2.1 rfl)
  ·exact hb j hj (fun hx => (h4 j hx).2.2.2 i hi he)
 ·obtain ⟨a1, a2⟩ := h4 j hj
  exact ⟨Nat.lt_of_lt_of_le a1 hs, a2⟩
theorem LawAt.gt {w : World} {g : Nat} {h : Hist} {X : Nat → Prop} (k : LawAt w g h X) : g < w.heap.size := by
 obtain ⟨F, r, h1, _⟩ := k
 exact lt_of_block h1.blk
theorem LawAt.new (w : World) : LawAt (w.alloc (.cells #[.slice none 0 0, .slice none 0 0, .slice none 0 0, .slice none 0 0, .slice none 0 0, .slice none 0 0] 79)) w.heap.size ⟨[], [], [], []⟩ (fun _ => False) := by
 refine ⟨fun _ => False, fun _ => ⟨.slice none 0 0, 0, []⟩, ⟨alloc_last w _, fun i _ => World.ownsRow_nil _ _ _ _, fun i _ b hb => by simp [Value.ownBlock] at hb, fun h => h, fun _ h => h.elim⟩, ?_, ?_, fun _ h => h.elim⟩
 ·intro i hi
  rcases (by omega : i = 0 ∨ i = 1 ∨ i = 2 ∨ i = 3 ∨ i = 4 ∨ i = 5) with rfl | rfl | rfl | rfl | rfl | rfl <;> rfl
 ·intro w' _ _
  exact ⟨by simp, by simp, by simp, by simp⟩
def updX (rx : Nat → List Value) (i : Nat) (x : List Value) : Nat → List Value := fun j => if j = i then x else rx j
theorem LawG.push {w w1 : World} {g i : Nat} {rx : Nat → List Value} {h h' : Hist} {X F E : Nat → Prop} {r : Nat → LRow} (k : LawG w g rx h X F r) (hi : i < 6) {g' n' cap H : Nat} {news : List Value} (hg : w.grownBy w1 (r i).v.ownBlock)
  (hown : w1.ownsRow g (wty i) (wsz i) (.slice (some ⟨g', 0, none⟩) n' cap) n' (rx i ++ news)) (hat : (r i).v.ownBlock = some g' ∨ g' = H) (hH : w.heap.size = H)
  (hE : ∀ j, E j → X j) (hst : ∀ w', w.heap.size ≤ w'.heap.size → (∀ j, F j ∨ E j → w'.heap[j]? = w.heap[j]?) → Still w' h') :
  LawG (w1.setCell ⟨g, i, none⟩ (.slice (some ⟨g', 0, none⟩) n' cap)) g (updX rx i (rx i ++ news)) h' (fun j => X j ∧ ¬ E j) (fun j => F j ∨ E j) (updR r i ⟨.slice (some ⟨g', 0, none⟩) n' cap, n', rx i ++ news⟩) ∧
  Below g w (w1.setCell ⟨g, i, none⟩ (.slice (some ⟨g', 0, none⟩) n' cap)) ∧ ∀ j, X j → (w1.setCell ⟨g, i, none⟩ (.slice (some ⟨g', 0, none⟩) n' cap)).heap[j]? = w.heap[j]? := by
 obtain ⟨h1, h2, h3, h4⟩ := k
 have h5 : Six wty wsz 79 w g (fun j => F j ∨ E j) r := h1.more (fun j hj => by
  rcases hj with hj | hj
  ·exact Or.inl hj
  ·obtain ⟨a1, _, a3, a4⟩ := h4 j (hE j hj)
   exact Or.inr ⟨a1, a3, a4⟩)
 obtain ⟨p1, p2, p3⟩ := h5.push hi hg hown hat hH
 have hsz : w.heap.size ≤ (w1.setCell ⟨g, i, none⟩ (.slice (some ⟨g', 0, none⟩) n' cap)).heap.size := p3.size
 have hX : ∀ j, X j → (w1.setCell ⟨g, i, none⟩ (.slice (some ⟨g', 0, none⟩) n' cap)).heap[j]? = w.heap[j]? := fun j hj => by
  obtain ⟨a1, _, a3, a4⟩ := h4 j hj
  exact p2 j a1 a3 (a4 i hi)
 refine ⟨⟨p1, ?_, ?_, ?_⟩, p3, hX⟩
 ·intro j hj
  unfold updR updX
  split
  ·rfl
  ·exact h2 j hj
 ·intro w' hs hF
  refine hst w' (Nat.le_trans hsz hs) (fun j hj => (hF j hj).trans ?_)
  rcases hj with hf | he
  ·exact p2 j (h1.lt j hf) (fun e => h1.still (e ▸ hf)) (fun e => (h1.far i hi j e).2.1 hf)
  ·exact hX j (hE j he)
 ·rintro j ⟨hj, hne⟩
  obtain ⟨a1, a2, a3, a4⟩ := h4 j hj
  refine ⟨Nat.lt_of_lt_of_le a1 hsz, fun hf => hf.elim a2 hne, a3, fun k hk => ?_⟩
  unfold updR
  split
  ·intro e
   simp only [Value.ownBlock, Option.some.injEq] at e
   subst e
   rename_i hki
   subst hki
   rcases hat with e | e
   ·exact a4 k hk e
   ·omega
  ·exact a4 k hk
theorem LawG.at {w : World} {g : Nat} {rx : Nat → List Value} {h : Hist} {X F : Nat → Prop} {r : Nat → LRow} (k : LawG w g rx h X F r) (hx : ∀ i, i < 6 → rx i = rowX h i) : LawAt w g h X :=
 ⟨F, r, k.1, fun i hi => (k.2.1 i hi).trans (hx i hi), k.2.2⟩
theorem LawG.below {w w' : World} {g : Nat} {rx : Nat → List Value} {h : Hist} {X F : Nat → Prop} {r : Nat → LRow} (k : LawG w g rx h X F r) (b : Below w.heap.size w w') : LawG w' g rx h X F r := by
 obtain ⟨h1, h2, h3, h4⟩ := k
 refine ⟨h1.below b, h2, fun w'' hs hF => h3 w'' (Nat.le_trans b.size hs) (fun j hj => (hF j hj).trans (b.block j (h1.lt j hj))), ?_⟩
 intro j hj
 obtain ⟨a1, a2⟩ := h4 j hj
 exact ⟨Nat.lt_of_lt_of_le a1 b.size, a2⟩
theorem LawG.wrote {w w' : World} {g : Nat} {rx : Nat → List Value} {h : Hist} {X F : Nat → Prop} {r : Nat → LRow} (k : LawG w g rx h X F r) (hs : w.heap.size ≤ w'.heap.size) (hb : ∀ j, j < w.heap.size → ¬ X j → w'.heap[j]? = w.heap[j]?) : LawG w' g rx h X F r := by
 obtain ⟨h1, h2, h3, h4⟩ := k
 refine ⟨h1.apart hs ?_, h2, fun w'' hs2 hF => h3 w'' (Nat.le_trans hs hs2) (fun j hj => (hF j hj).trans (hb j (h1.lt j hj) (fun hx => (h4 j hx).2.1 hj))), fun j hj => ?_⟩
 ·rintro j hj (rfl | ⟨i, hi, he⟩)
  ·exact hb j hj (fun hx => (h4 j hx).2.2.1 rfl)
  ·exact hb j hj (fun hx => (h4 j hx).2.2.2 i hi he)
 ·obtain ⟨a1, a2⟩ := h4 j hj
  exact ⟨Nat.lt_of_lt_of_le a1 hs, a2⟩
end Go.Proofs.YthnggjaecngbiaaGreatDoor
namespace Go.Proofs.YthnggjaecngbiaaGreatDoor
open Go.RowKit
theorem SlAt.len_le {w : World} {size : Nat} {v : Value} {n : Nat} {xs : List Value} (h : SlAt w size v n xs) : n ≤ 9223372036854775807 := by
 rcases h with ⟨h0, _⟩ | ⟨g, cap, _, h1, h2, _⟩
 ·omega
 ·unfold maxLen at h2; omega
theorem SlAt.at1 {w : World} {ao : Option Addr} {n cap : Nat} {xs : List Value} (h : SlAt w 1 (.slice ao n cap) n xs) {j : Nat} (hj : j < n) : ∃ g, ao = some ⟨g, 0, none⟩ ∧ w.cell? ⟨g, j, none⟩ = xs[j]? ∧ g < w.heap.size := by
 rcases h with ⟨h0, _⟩ | ⟨g, cap', hv, h1, h2, h3, h4⟩
 ·omega
 ·simp only [Value.slice.injEq] at hv
  exact ⟨g, hv.1, h4 j (by omega), h3⟩
theorem SlAt.at2 {w : World} {ao : Option Addr} {n cap : Nat} {xs : List Value} (h : SlAt w 2 (.slice ao n cap) n xs) {j : Nat} (hj : j < n) : ∃ g, ao = some ⟨g, 0, none⟩ ∧ w.cell? ⟨g, j * 2, none⟩ = xs[j * 2]? ∧ w.cell? ⟨g, j * 2 + 1, none⟩ = xs[j * 2 + 1]? ∧ g < w.heap.size := by
 rcases h with ⟨h0, _⟩ | ⟨g, cap', hv, h1, h2, h3, h4⟩
 ·omega
 ·simp only [Value.slice.injEq] at hv
  exact ⟨g, hv.1, h4 _ (by omega), h4 _ (by omega), h3⟩
def InSl (w : World) (v : Value) (vals : List Int) : Prop :=
 (vals = [] ∧ ∃ ao cap, v = .slice ao 0 cap) ∨ ∃ g off cap, v = .slice (some ⟨g, off, none⟩) vals.length cap ∧ vals.length ≤ cap ∧ cap ≤ maxLen ∧ g < w.heap.size ∧ ∀ j x, vals[j]? = some x → w.cell? ⟨g, off + j, none⟩ = some (.int .i64 x)
theorem InSl.form {w : World} {v : Value} {vals : List Int} (h : InSl w v vals) : ∃ ao cap, v = .slice ao vals.length cap := by
 rcases h with ⟨rfl, ao, cap, rfl⟩ | ⟨g, off, cap, rfl, _⟩
 ·exact ⟨ao, cap, rfl⟩
 ·exact ⟨_, _, rfl⟩
theorem InSl.below {w w' : World} {v : Value} {vals : List Int} (h : InSl w v vals) (b : Below w.heap.size w w') : InSl w' v vals := by
 rcases h with h | ⟨g, off, cap, h1, h2, h3, h4, h5⟩
 ·exact Or.inl h
 ·exact Or.inr ⟨g, off, cap, h1, h2, h3, Nat.lt_of_lt_of_le h4 b.size, fun j x hx => by rw [b.cell (p := ⟨g, off + j, none⟩) h4]; exact h5 j x hx⟩
theorem InSl.at {w : World} {ao : Option Addr} {n cap : Nat} {vals : List Int} (h : InSl w (.slice ao n cap) vals) {j : Nat} (hj : j < vals.length) : ∃ g off, ao = some ⟨g, off, none⟩ ∧ w.cell? ⟨g, off + j, none⟩ = some (.int .i64 vals[j]) ∧ g < w.heap.size := by
 rcases h with ⟨h0, _⟩ | ⟨g, off, cap', hv, h1, h2, h3, h4⟩
 ·rw [h0] at hj; simp at hj
 ·simp only [Value.slice.injEq] at hv
  exact ⟨g, off, hv.1, h4 j vals[j] (by simp [hj]), h3⟩
end Go.Proofs.YthnggjaecngbiaaGreatDoor
namespace Go.Proofs.YthnggjaecngbiaaGreatDoor
open Go.RowKit
theorem Tryz.info_ints : (Tryz.prog.info? 25).map (fun i => (i.zero, i.size, i.bytes)) = some (some (.slice none 0 0), 1, 24) := by kernel_rfl
theorem Tryz.info_lvalues : (Tryz.prog.info? 47).map (fun i => (i.zero, i.size, i.bytes)) = some (some (.slice none 0 0), 1, 24) := by kernel_rfl
theorem Tryz.info_pair : (Tryz.prog.info? 105).map (fun i => (i.zero, i.size, i.bytes)) = some (some (.agg #[.pointer none, .pointer none]), 2, 16) := by kernel_rfl
theorem wpList_append_nothing {P : Program} {w : World} {ops : Array Oper} {rest : List Oper} {o : Oper} {a : Act} {Q : Exit → Act → World → Prop} (hgd : o.guard = none) (s x : Operand) (t : TypeId)
  (ho : o.op = .call { callee := .builtin .append, args := #[s, x], argTypes := #[t, t] }) (e : TypeId) (i : TypeInfo) (ht : P.underlying t = some (.slice e)) (hi : P.info? e = some i)
  (ao : Option Addr) (n c : Nat) (hn : n = 0) (hs : a.eval s = .slice none 0 0) (hx : a.eval x = .slice ao n c) (h : wpList P ops Q rest (a.put o.dst (.slice none 0 0)) w) : wpList P ops Q (o :: rest) a w := by
 subst hn
 refine wpList_plain hgd fun K hK => ?_
 have hr : (Builtin.append_ #[t, t] o.type #[.slice none 0 0, .slice ao 0 c]).run P w = .ok (.slice none 0 0) w := by
  cases ao <;> simp [Builtin.append_, run_underlying ht, sizeOf, typeInfo, hi, Builtin.lenOf, Builtin.firstCells, loadCells, loadCellsFrom]
 unfold Oper.wp execOp
 simp only [ho, resolve, invoke, builtin, Sem.run_bind, Sem.run_pure, Result.andThen_ok, List.map_toArray, List.map_cons, List.map_nil, hs, hx, hr]
 exact hK _ _ h
set_option maxRecDepth 100000 in
set_option maxHeartbeats 1600000 in
theorem sameValues_any (a b : Value) (vs : List PVal) (w : World) (ha : SlAt w 2 a vs.length (vs.flatMap vcells)) (hb : SlAt w 2 b vs.length (vs.flatMap vcells)) (hl : vs.length ≤ 1000) :
  Calls Tryz.prog 82 #[a, b] w fun e w' => e = .returned (.bool true) ∧ Below w.heap.size w w' := by
 obtain ⟨ao, ac, rfl⟩ := ha.form
 obtain ⟨bo, bc, rfl⟩ := hb.form
 have HA := hide ha
 have HB := hide hb
 clear ha hb
 go_enter Tryz.func82, Tryz.ntmps82
 go_wp2_with fail
 go_loopg [5] vs.length (fun g i wr => ∃ j : Nat, j ≤ vs.length ∧ g = vs.length - j ∧ i = .int .i64 (j : Int) ∧ Below w.heap.size w wr)
 case atStart => exact ⟨0, by omega, rfl, rfl, Below.refl _ _⟩
 case round =>
  obtain ⟨j, hj, hg, rfl, hb⟩ := hrel
  have A : Aside (gk = vs.length - j ∧ Below w.heap.size w wr) := ⟨hg, hb⟩
  clear hg
  by_cases hlt : j < vs.length
  ·rcases (uh HA).below hb with ⟨h0, _⟩ | ⟨g1, cap1, hv1, hc1, hm1, hgl1, hx1⟩
   ·omega
   rcases (uh HB).below hb with ⟨h0, _⟩ | ⟨g2, cap2, hv2, hc2, hm2, hgl2, hx2⟩
   ·omega
   simp only [Value.slice.injEq] at hv1 hv2
   obtain ⟨rfl, _, rfl⟩ := hv1
   obtain ⟨rfl, _, rfl⟩ := hv2
   have key1 : ∀ i, i < 2 → wr.cell? ⟨g1, j * 2 + i, none⟩ = (vcells vs[j])[i]? := fun i hi => by
    rw [hx1 _ (by omega)]
    exact flat_at vcells 2 (fun _ => rfl) vs j i hlt hi
   have key2 : ∀ i, i < 2 → wr.cell? ⟨g2, j * 2 + i, none⟩ = (vcells vs[j])[i]? := fun i hi => by
    rw [hx2 _ (by omega)]
    exact flat_at vcells 2 (fun _ => rfl) vs j i hlt hi
   have k0 := key1 0 (by omega)
   have k1 := key1 1 (by omega)
   have l0 := key2 0 (by omega)
   have l1 := key2 1 (by omega)
   simp only [vcells, List.getElem?_cons_zero, List.getElem?_cons_succ, Nat.add_zero] at k0 k1 l0 l1
   have hjc : (j : Int) < vs.length := by omega
   generalize vs[j] = x at *
   clear key1 key2 hx1 hx2 hb
   go_wp2_with fail
   go_region
   all_goals
    go_wp2
    go_roundg (vs.length - (j + 1))
    case measure => have := A.out.1; omega
    case rel => exact ⟨j + 1, by omega, rfl, by go_num, A.out.2.drew⟩
  ·have hjc : ¬ (j : Int) < vs.length := by omega
   go_wp2_with fail
   go_ret
   exact ⟨rfl, A.out.2⟩
def lentL (vals : List Int) (k : Nat) : List Value := ints vals ++ List.replicate k (.int .i64 (-77))
theorem lentL_succ (vals : List Int) (j : Nat) : lentL vals (j + 1) = lentL vals j ++ [.int .i64 (-77)] := by
 unfold lentL
 rw [List.replicate_succ', List.append_assoc]
set_option maxRecDepth 100000 in
set_option maxHeartbeats 1600000 in
theorem lend_any (b : Nat) (v : Value) (vals : List Int) (w : World) (hv : InSl w v vals) (hl : (vals.length + 8) * 8 ≤ 140737488355328) :
  Calls Tryz.prog 80 #[.pointer (some ⟨b, 0, none⟩), v] w fun e w' => ∃ g cap, e = .returned (.slice (some ⟨g, 0, none⟩) (vals.length + 8) cap) ∧ Below w.heap.size w w' ∧ w'.ownsRow w.heap.size 3 1 (.slice (some ⟨g, 0, none⟩) (vals.length + 8) cap) (vals.length + 8) (lentL vals 8) := by
 obtain ⟨vo, vc, rfl⟩ := hv.form
 have HV := hide hv
 clear hv
 obtain ⟨i0, hi, hz0, hz1, hz2⟩ := info_parts Tryz.info_int
 by_cases h0 : vals.length = 0
 ·have H0 := hide h0
  clear h0
  go_enter Tryz.func80, Tryz.ntmps80
  go_wp2_with (at_builtin; refine wpList_append_nothing (by rfl) _ _ _ (by rfl) 3 i0 Tryz.underlying25 hi vo vals.length vc (uh H0) (by rfl) (by rfl) ?_)
  go_loopg [5, 6] 8 (fun gk pv iv wr => ∃ j : Nat, j ≤ 8 ∧ gk = 8 - j ∧ iv = .int .i64 (j : Int) ∧ Below w.heap.size w wr ∧ wr.ownsRow w.heap.size 3 1 pv (vals.length + j) (lentL vals j))
  case atStart => exact ⟨0, by omega, rfl, rfl, Below.refl _ _, by rw [uh H0, show lentL vals 0 = [] by have := List.eq_nil_of_length_eq_zero (uh H0); rw [this]; rfl]; exact World.ownsRow_nil _ _ _ _⟩
  case round =>
   obtain ⟨j, hj, hg, rfl, hb, hown⟩ := hrel
   have A : Aside (gk = 8 - j ∧ Below w.heap.size w wr ∧ wr.ownsRow w.heap.size 3 1 u5 (vals.length + j) (lentL vals j)) := ⟨hg, hb, hown⟩
   have hsz := hb.size
   clear hg hb hown
   by_cases hlt : j < 8
   ·have hjc : (j : Int) < 8 := by omega
    go_wp2_with (at_builtin; refine wpList_append_lies _ (by rfl) _ _ _ (by rfl) w.heap.size 3 i0 _ 1 8 Tryz.underlying25 hi hz0 hz1 hz2 rfl (by decide) u5 (vals.length + j) (lentL vals j) (by rfl) (A.out.2.2.alloc _) ⟨wr.heap.size, 0, none⟩ 1 1 [.int .i64 (-77)] (by rfl) (by rfl) (World.news_of_block (cs := #[.int .i64 (-77)]) (t := 3) (fr := (0, 0)) (heap_alloc_new wr _)) (by simp [Value.oneCell']) (by decide) (by unfold maxLen; omega) (by omega) (by simp; omega) (wr.heap.size + 1) (by simp) ?_; intro gg cap w7 hown7 hgrow7 hat7 hlt7; have AB := hide (And.intro (below_grown (A.out.2.1.alloc hsz _) hgrow7 (fun q hq => (A.out.2.2.lt q hq).1)) hown7); clear hown7 hgrow7 hat7 hlt7)
    go_roundg (8 - (j + 1))
    case measure => have := A.out.1; omega
    case rel => exact ⟨j + 1, by omega, rfl, by go_num, (uh AB).1, by rw [lentL_succ, ← Nat.add_assoc]; exact (uh AB).2⟩
   ·have hje : j = 8 := by omega
    subst hje
    obtain ⟨q, qc, hq, _⟩ := A.out.2.2.form (by omega)
    go_wp2_with fail
    go_ret
    subst hq
    exact ⟨q, qc, rfl, A.out.2.1, A.out.2.2⟩
 ·have hpos : 0 < vals.length := by omega
  rcases uh HV with ⟨h0', _⟩ | ⟨g, off, cap, hvv, hc, hm, hgl, hx⟩
  ·rw [h0'] at h0; simp at h0
  simp only [Value.slice.injEq] at hvv
  obtain ⟨rfl, _, rfl⟩ := hvv
  have HNW : Hid (∀ j u, (ints vals)[j]? = some u → w.cell? ((⟨g, off, none⟩ : Addr).add j) = some u) := hide (fun j u hu => by
   rw [Addr.add_lit]
   unfold ints at hu
   rw [List.getElem?_map] at hu
   cases hq : vals[j]? with
   | none => rw [hq] at hu; simp at hu
   | some y =>
    rw [hq] at hu
    simp only [Option.map_some, Option.some.injEq] at hu
    rw [← hu]
    exact hx j y hq)
  clear hx
  go_enter Tryz.func80, Tryz.ntmps80
  go_wp2_with (at_builtin; refine wpList_append_lies _ (by rfl) _ _ _ (by rfl) w.heap.size 3 i0 _ 1 8 Tryz.underlying25 hi hz0 hz1 hz2 rfl (by decide) (.slice none 0 0) 0 [] (by rfl) (World.ownsRow_nil _ _ _ _) ⟨g, off, none⟩ vals.length vc (ints vals) (by rfl) (by simp [ints]) (uh HNW) (by simp [ints, Value.oneCell']) hpos (by unfold maxLen; omega) (by omega) (Nat.le_refl _) w.heap.size rfl ?_; intro gg cap w7 hown7 hgrow7 hat7 hlt7; have AB := hide (And.intro (below_grown (Below.refl _ _) hgrow7 (fun q hq => by simp [Value.ownBlock] at hq)) hown7); clear hown7 hgrow7 hat7 hlt7)
  go_loopg [5, 6] 8 (fun gk pv iv wr => ∃ j : Nat, j ≤ 8 ∧ gk = 8 - j ∧ iv = .int .i64 (j : Int) ∧ Below w.heap.size w wr ∧ wr.ownsRow w.heap.size 3 1 pv (vals.length + j) (lentL vals j))
  case atStart => exact ⟨0, by omega, rfl, rfl, (uh AB).1, by have := (uh AB).2; simp only [Nat.zero_add, List.nil_append] at this; simpa [lentL] using this⟩
  case round =>
   obtain ⟨j, hj, hg, rfl, hb, hown⟩ := hrel
   have A : Aside (gk = 8 - j ∧ Below w.heap.size w wr ∧ wr.ownsRow w.heap.size 3 1 u5 (vals.length + j) (lentL vals j)) := ⟨hg, hb, hown⟩
   have hsz := hb.size
   clear hg hb hown
   by_cases hlt : j < 8
   ·have hjc : (j : Int) < 8 := by omega
    go_wp2_with (at_builtin; refine wpList_append_lies _ (by rfl) _ _ _ (by rfl) w.heap.size 3 i0 _ 1 8 Tryz.underlying25 hi hz0 hz1 hz2 rfl (by decide) u5 (vals.length + j) (lentL vals j) (by rfl) (A.out.2.2.alloc _) ⟨wr.heap.size, 0, none⟩ 1 1 [.int .i64 (-77)] (by rfl) (by rfl) (World.news_of_block (cs := #[.int .i64 (-77)]) (t := 3) (fr := (0, 0)) (heap_alloc_new wr _)) (by simp [Value.oneCell']) (by decide) (by unfold maxLen; omega) (by omega) (by simp; omega) (wr.heap.size + 1) (by simp) ?_; intro gg cap w7 hown7 hgrow7 hat7 hlt7; have AC := hide (And.intro (below_grown (A.out.2.1.alloc hsz _) hgrow7 (fun q hq => (A.out.2.2.lt q hq).1)) hown7); clear hown7 hgrow7 hat7 hlt7)
    go_roundg (8 - (j + 1))
    case measure => have := A.out.1; omega
    case rel => exact ⟨j + 1, by omega, rfl, by go_num, (uh AC).1, by rw [lentL_succ, ← Nat.add_assoc]; exact (uh AC).2⟩
   ·have hje : j = 8 := by omega
    subst hje
    obtain ⟨q, qc, hq, _⟩ := A.out.2.2.form (by omega)
    go_wp2_with fail
    go_ret
    subst hq
    exact ⟨q, qc, rfl, A.out.2.1, A.out.2.2⟩
end Go.Proofs.YthnggjaecngbiaaGreatDoor
namespace Go.Proofs.YthnggjaecngbiaaGreatDoor
open Go.RowKit
theorem LawAt.read {w : World} {g : Nat} {h : Hist} {X : Nat → Prop} (k : LawAt w g h X) :
  ∃ v0 v1 v2 v3 v4 v5, (w.cell? ⟨g, 0, none⟩ = some v0 ∧ w.cell? ⟨g, 1, none⟩ = some v1 ∧ w.cell? ⟨g, 2, none⟩ = some v2 ∧ w.cell? ⟨g, 3, none⟩ = some v3 ∧ w.cell? ⟨g, 4, none⟩ = some v4 ∧ w.cell? ⟨g, 5, none⟩ = some v5) ∧
   SlAt w 2 v0 h.ps.length (rowX h 0) ∧ SlAt w 1 v1 h.ns.length (rowX h 1) ∧ SlAt w 1 v2 h.vs.length (rowX h 2) ∧ SlAt w 1 v3 h.ls.length (rowX h 3) ∧ SlAt w 1 v4 h.ns.length (rowX h 4) ∧ SlAt w 1 v5 h.vs.length (rowX h 5) := by
 obtain ⟨F, r, h1, h2, _, _⟩ := k
 obtain ⟨hc, _⟩ := h1.cells
 have key : ∀ i, i < 6 → w.ownsRow g (wty i) (wsz i) (r i).v (r i).n (rowX h i) := fun i hi => by rw [← h2 i hi]; exact h1.own i hi
 have k0 := key 0 (by omega)
 have k1 := key 1 (by omega)
 have k2 := key 2 (by omega)
 have k3 := key 3 (by omega)
 have k4 := key 4 (by omega)
 have k5 := key 5 (by omega)
 have n0 : (r 0).n = h.ps.length := by
  have := k0.1
  simp only [rowX, wsz] at this
  rw [flat_len _ 2 (fun _ => rfl)] at this
  omega
 have n1 : (r 1).n = h.ns.length := by have := k1.1; simp only [rowX, wsz, List.length_map] at this; omega
 have n2 : (r 2).n = h.vs.length := by have := k2.1; simp only [rowX, wsz, List.length_map] at this; omega
 have n3 : (r 3).n = h.ls.length := by have := k3.1; simp only [rowX, wsz, List.length_map] at this; omega
 have n4 : (r 4).n = h.ns.length := by have := k4.1; simp only [rowX, wsz, List.length_map] at this; omega
 have n5 : (r 5).n = h.vs.length := by have := k5.1; simp only [rowX, wsz, List.length_map] at this; omega
 rw [n0] at k0
 rw [n1] at k1
 rw [n2] at k2
 rw [n3] at k3
 rw [n4] at k4
 rw [n5] at k5
 exact ⟨_, _, _, _, _, _, hc, SlAt.of_owns k0, SlAt.of_owns k1, SlAt.of_owns k2, SlAt.of_owns k3, SlAt.of_owns k4, SlAt.of_owns k5⟩
theorem repL_at {c : List Value} {k j i : Nat} (hj : j < k) (hi : i < c.length) : (repL c k)[j * c.length + i]? = c[i]? := by
 have h1 : repL c k = repL c j ++ (c ++ repL c (k - j - 1)) := by
  obtain ⟨d, rfl⟩ : ∃ d, k = j + (1 + d) := ⟨k - j - 1, by omega⟩
  rw [repL_add, repL_add, show j + (1 + d) - j - 1 = d by omega]
  congr 1
  congr 1
  simp [repL]
 rw [h1, List.getElem?_append_right (by rw [repL_len]; omega), repL_len, show j * c.length + i - j * c.length = i by omega, List.getElem?_append_left hi]
set_option maxRecDepth 100000 in
set_option maxHeartbeats 3200000 in
theorem looksAt_any (g : Nat) (h : Hist) (X : Nat → Prop) (w : World) (k : LawAt w g h X) : Calls Tryz.prog 34 #[.pointer (some ⟨g, 0, none⟩)] w fun e w' => e = .returned (.bool true) ∧ Below w.heap.size w w' := by
 obtain ⟨v0, v1, v2, v3, v4, v5, ⟨c0, c1, c2, c3, c4, c5⟩, s0, s1, s2, s3, s4, s5⟩ := k.read
 have hgs := k.gt
 have hst := k.still
 obtain ⟨o1, p1, rfl⟩ := s1.form
 obtain ⟨o2, p2, rfl⟩ := s2.form
 obtain ⟨o3, p3, rfl⟩ := s3.form
 obtain ⟨o4, p4, rfl⟩ := s4.form
 obtain ⟨o5, p5, rfl⟩ := s5.form
 have m1 : h.ns.length ≤ 9223372036854775807 := s1.len_le
 have m2 : h.vs.length ≤ 9223372036854775807 := s2.len_le
 have m3 : h.ls.length ≤ 9223372036854775807 := s3.len_le
 have HST := hide hst
 have S1 := hide s1
 have S2 := hide s2
 have S3 := hide s3
 have S4 := hide s4
 have S5 := hide s5
 clear k hst s0 s1 s2 s3 s4 s5
 go_enter Tryz.func34, Tryz.ntmps34
 go_wp2_with fail
 go_loopg [3] h.ns.length (fun gk i wr => ∃ j : Nat, j ≤ h.ns.length ∧ gk = h.ns.length - j ∧ i = .int .i64 (j : Int) ∧ Below w.heap.size w wr)
 case atStart => exact ⟨0, by omega, rfl, rfl, Below.refl _ _⟩
 case round =>
  obtain ⟨j, hj, hg, rfl, hb⟩ := hrel
  have A : Aside (gk = h.ns.length - j ∧ Below w.heap.size w wr) := ⟨hg, hb⟩
  have c1' := (hb.cell (p := ⟨g, 1, none⟩) hgs).trans c1
  have c2' := (hb.cell (p := ⟨g, 2, none⟩) hgs).trans c2
  have c3' := (hb.cell (p := ⟨g, 3, none⟩) hgs).trans c3
  have c4' := (hb.cell (p := ⟨g, 4, none⟩) hgs).trans c4
  have c5' := (hb.cell (p := ⟨g, 5, none⟩) hgs).trans c5
  have hgs' : g < wr.heap.size := Nat.lt_of_lt_of_le hgs hb.size
  clear hg
  by_cases hlt : j < h.ns.length
  ·obtain ⟨g1, rfl, d1, hg1⟩ := ((uh S1).below hb).at1 hlt
   obtain ⟨g4, rfl, d4, hg4⟩ := ((uh S4).below hb).at1 hlt
   have hown := (uh HST).ns h.ns[j] (List.getElem_mem hlt)
   have HD1 : Hid ((rowX h 1)[j]? = some h.ns[j].1) := hide (by simp [rowX, hlt])
   have HD4 : Hid ((rowX h 4)[j]? = some (.int .i64 h.ns[j].2.2)) := hide (by simp [rowX, hlt])
   rw [uh HD1] at d1
   rw [uh HD4] at d4
   have hsl := SlAt.of_owns hown
   obtain ⟨oo, oc, hform⟩ := hsl.form
   have HO := hide hown
   have HSL := hide hsl
   have hjc : (j : Int) < h.ns.length := by omega
   have mm : h.ns[j].2.1 ≤ 9223372036854775807 := hsl.len_le
   rw [hform] at HSL d1 HD1
   generalize h.ns[j] = y at *
   obtain ⟨yv, yn, ym⟩ := y
   simp only at d1 d4 HSL mm HD1 HD4
   clear hown hsl hform HO
   go_wp2_with fail
   go_loopg [4] yn (fun gk i wx => ∃ m : Nat, m ≤ yn ∧ gk = yn - m ∧ i = .int .i64 (m : Int) ∧ Below w.heap.size w wx)
   case atStart => exact ⟨0, by omega, rfl, rfl, A.out.2⟩
   case round =>
    obtain ⟨m, hm, hg, rfl, hb2⟩ := hrel
    have B : Aside (gk = yn - m ∧ Below w.heap.size w wr) := ⟨hg, hb2⟩
    have hgs2 : g < wr.heap.size := Nat.lt_of_lt_of_le hgs hb2.size
    have x1 := (hb2.cell (p := ⟨g, 1, none⟩) hgs).trans c1
    obtain ⟨gg1, hgg1, e1, hl1⟩ := ((uh S1).below hb2).at1 hlt
    simp only [Option.some.injEq, Addr.mk.injEq, and_true] at hgg1
    subst hgg1
    have x4 := (hb2.cell (p := ⟨g, 4, none⟩) hgs).trans c4
    obtain ⟨gg4, hgg4, e4, hl4⟩ := ((uh S4).below hb2).at1 hlt
    simp only [Option.some.injEq, Addr.mk.injEq, and_true] at hgg4
    subst hgg4
    rw [uh HD1] at e1
    rw [uh HD4] at e4
    clear hg
    by_cases hmt : m < yn
    ·obtain ⟨g6, rfl, d6, hg6⟩ := ((uh HSL).below hb2).at1 hmt
     rw [show (repL (mI ym) yn)[m]? = some (.int .i64 ym) by have := repL_at (c := mI ym) (i := 0) hmt (by simp [mI]); simpa [mI] using this] at d6
     have hmc : (m : Int) < yn := by omega
     clear hb hb2
     go_wp2_with fail
     go_region
     all_goals
      go_wp2
      go_roundg (yn - (m + 1))
      case measure => have := B.out.1; omega
      case rel => exact ⟨m + 1, by omega, rfl, by go_num, B.out.2.drew⟩
    ·have hmc : ¬ (m : Int) < yn := by omega
     go_wp2_with fail
     go_roundg (h.ns.length - (j + 1))
     case measure => have := A.out.1; omega
     case rel => exact ⟨j + 1, by omega, rfl, by go_num, B.out.2⟩
  ·have hjc : ¬ (j : Int) < h.ns.length := by omega
   go_wp2_with fail
   go_loopg [5] h.vs.length (fun gk i wx => ∃ j : Nat, j ≤ h.vs.length ∧ gk = h.vs.length - j ∧ i = .int .i64 (j : Int) ∧ Below w.heap.size w wx)
   case atStart => exact ⟨0, by omega, rfl, rfl, A.out.2⟩
   case round =>
    obtain ⟨j, hj, hg, rfl, hb⟩ := hrel
    have A : Aside (gk = h.vs.length - j ∧ Below w.heap.size w wr) := ⟨hg, hb⟩
    have c1' := (hb.cell (p := ⟨g, 1, none⟩) hgs).trans c1
    have c2' := (hb.cell (p := ⟨g, 2, none⟩) hgs).trans c2
    have c3' := (hb.cell (p := ⟨g, 3, none⟩) hgs).trans c3
    have c4' := (hb.cell (p := ⟨g, 4, none⟩) hgs).trans c4
    have c5' := (hb.cell (p := ⟨g, 5, none⟩) hgs).trans c5
    have hgs' : g < wr.heap.size := Nat.lt_of_lt_of_le hgs hb.size
    clear hg
    by_cases hlt : j < h.vs.length
    ·obtain ⟨g2, rfl, d2, hg2⟩ := ((uh S2).below hb).at1 hlt
     obtain ⟨g5, rfl, d5, hg5⟩ := ((uh S5).below hb).at1 hlt
     have hown := (uh HST).vs h.vs[j] (List.getElem_mem hlt)
     have HD2 : Hid ((rowX h 2)[j]? = some h.vs[j].1) := hide (by simp [rowX, hlt])
     have HD5 : Hid ((rowX h 5)[j]? = some (.int .i64 h.vs[j].2.2)) := hide (by simp [rowX, hlt])
     rw [uh HD2] at d2
     rw [uh HD5] at d5
     have hsl := SlAt.of_owns hown
     obtain ⟨oo, oc, hform⟩ := hsl.form
     have HSL := hide hsl
     have hjc : (j : Int) < h.vs.length := by omega
     have mm : h.vs[j].2.1 ≤ 9223372036854775807 := hsl.len_le
     rw [hform] at HSL d2 HD2
     generalize h.vs[j] = y at *
     obtain ⟨yv, yn, ym⟩ := y
     simp only at d2 d5 HSL mm HD2 HD5
     clear hown hsl hform
     go_wp2_with fail
     go_loopg [7] yn (fun gk i wx => ∃ m : Nat, m ≤ yn ∧ gk = yn - m ∧ i = .int .i64 (m : Int) ∧ Below w.heap.size w wx)
     case atStart => exact ⟨0, by omega, rfl, rfl, A.out.2⟩
     case round =>
      obtain ⟨m, hm, hg, rfl, hb2⟩ := hrel
      have B : Aside (gk = yn - m ∧ Below w.heap.size w wr) := ⟨hg, hb2⟩
      have hgs2 : g < wr.heap.size := Nat.lt_of_lt_of_le hgs hb2.size
      have x2 := (hb2.cell (p := ⟨g, 2, none⟩) hgs).trans c2
      obtain ⟨gg2, hgg2, e2, hl2⟩ := ((uh S2).below hb2).at1 hlt
      simp only [Option.some.injEq, Addr.mk.injEq, and_true] at hgg2
      subst hgg2
      have x5 := (hb2.cell (p := ⟨g, 5, none⟩) hgs).trans c5
      obtain ⟨gg5, hgg5, e5, hl5⟩ := ((uh S5).below hb2).at1 hlt
      simp only [Option.some.injEq, Addr.mk.injEq, and_true] at hgg5
      subst hgg5
      rw [uh HD2] at e2
      rw [uh HD5] at e5
      clear hg
      by_cases hmt : m < yn
      ·obtain ⟨g6, rfl, d6, d7, hg6⟩ := ((uh HSL).below hb2).at2 hmt
       rw [show (repL (mV ym) yn)[m * 2]? = some (.int .i64 ym) by have := repL_at (c := mV ym) (i := 0) hmt (by simp [mV]); simpa [mV] using this] at d6
       rw [show (repL (mV ym) yn)[m * 2 + 1]? = some (.int .i64 ym) by have := repL_at (c := mV ym) (i := 1) hmt (by simp [mV]); simpa [mV] using this] at d7
       have hmc : (m : Int) < yn := by omega
       clear hb hb2
       go_wp2_with fail
       go_roundg (yn - (m + 1))
       case measure => have := B.out.1; omega
       case rel => exact ⟨m + 1, by omega, rfl, by go_num, B.out.2⟩
      ·have hmc : ¬ (m : Int) < yn := by omega
       go_wp2_with fail
       go_roundg (h.vs.length - (j + 1))
       case measure => have := A.out.1; omega
       case rel => exact ⟨j + 1, by omega, rfl, by go_num, B.out.2⟩
    ·have hjc : ¬ (j : Int) < h.vs.length := by omega
     go_wp2_with fail
     go_loopg [8] h.ls.length (fun gk i wx => ∃ j : Nat, j ≤ h.ls.length ∧ gk = h.ls.length - j ∧ i = .int .i64 (j : Int) ∧ Below w.heap.size w wx)
     case atStart => exact ⟨0, by omega, rfl, rfl, A.out.2⟩
     case round =>
      obtain ⟨j, hj, hg, rfl, hb⟩ := hrel
      have A : Aside (gk = h.ls.length - j ∧ Below w.heap.size w wr) := ⟨hg, hb⟩
      have c1' := (hb.cell (p := ⟨g, 1, none⟩) hgs).trans c1
      have c2' := (hb.cell (p := ⟨g, 2, none⟩) hgs).trans c2
      have c3' := (hb.cell (p := ⟨g, 3, none⟩) hgs).trans c3
      have c4' := (hb.cell (p := ⟨g, 4, none⟩) hgs).trans c4
      have c5' := (hb.cell (p := ⟨g, 5, none⟩) hgs).trans c5
      have hgs' : g < wr.heap.size := Nat.lt_of_lt_of_le hgs hb.size
      clear hg
      by_cases hlt : j < h.ls.length
      ·obtain ⟨g3, rfl, d3, hg3⟩ := ((uh S3).below hb).at1 hlt
       have hown := (uh HST).ls h.ls[j] (List.getElem_mem hlt)
       have HD3 : Hid ((rowX h 3)[j]? = some h.ls[j].1) := hide (by simp [rowX, hlt])
       rw [uh HD3] at d3
       have hsl := SlAt.of_owns hown
       obtain ⟨oo, oc, hform⟩ := hsl.form
       have HSL := hide hsl
       have hjc : (j : Int) < h.ls.length := by omega
       have mm : h.ls[j].2 ≤ 9223372036854775807 := hsl.len_le
       rw [hform] at HSL d3 HD3
       generalize h.ls[j] = y at *
       obtain ⟨yv, yn⟩ := y
       simp only at d3 HSL mm HD3
       clear hown hsl hform
       go_wp2_with fail
       go_loopg [9] yn (fun gk i wx => ∃ m : Nat, m ≤ yn ∧ gk = yn - m ∧ i = .int .i64 (m : Int) ∧ Below w.heap.size w wx)
       case atStart => exact ⟨0, by omega, rfl, rfl, A.out.2⟩
       case round =>
        obtain ⟨m, hm, hg, rfl, hb2⟩ := hrel
        have B : Aside (gk = yn - m ∧ Below w.heap.size w wr) := ⟨hg, hb2⟩
        have hgs2 : g < wr.heap.size := Nat.lt_of_lt_of_le hgs hb2.size
        have x3 := (hb2.cell (p := ⟨g, 3, none⟩) hgs).trans c3
        obtain ⟨gg3, hgg3, e3, hl3⟩ := ((uh S3).below hb2).at1 hlt
        simp only [Option.some.injEq, Addr.mk.injEq, and_true] at hgg3
        subst hgg3
        rw [uh HD3] at e3
        clear hg
        by_cases hmt : m < yn
        ·obtain ⟨g6, rfl, d6, hg6⟩ := ((uh HSL).below hb2).at1 hmt
         rw [show (repL (mI (-99)) yn)[m]? = some (.int .i64 (-99)) by have := repL_at (c := mI (-99)) (i := 0) hmt (by simp [mI]); simpa [mI] using this] at d6
         have hmc : (m : Int) < yn := by omega
         clear hb hb2
         go_wp2_with fail
         go_roundg (yn - (m + 1))
         case measure => have := B.out.1; omega
         case rel => exact ⟨m + 1, by omega, rfl, by go_num, B.out.2⟩
        ·have hmc : ¬ (m : Int) < yn := by omega
         go_wp2_with fail
         go_roundg (h.ls.length - (j + 1))
         case measure => have := A.out.1; omega
         case rel => exact ⟨j + 1, by omega, rfl, by go_num, B.out.2⟩
      ·have hjc : ¬ (j : Int) < h.ls.length := by omega
       go_wp2_with fail
       go_ret
       exact ⟨rfl, A.out.2⟩
end Go.Proofs.YthnggjaecngbiaaGreatDoor
