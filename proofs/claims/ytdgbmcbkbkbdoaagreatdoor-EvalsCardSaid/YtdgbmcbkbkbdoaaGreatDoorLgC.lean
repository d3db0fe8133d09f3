import Derived.Test.YtdgbmcbkbkbdoaaGreatDoorLgA
import Derived.Test.YtdgbmcbkbkbdoaaGreatDoorFcA
import Derived.Test.YtdgbmcbkbkbdoaaGreatDoorRgB
import Derived.Test.YtdgbmcbkbkbdoaaGreatDoorEvG
import Derived.Test.YtdgbmcbkbkbdoaaGreatDoorSlX
namespace Go.Proofs.YtdgbmcbkbkbdoaaGreatDoor
open Go.RowKit
def wty : Nat → TypeId
 | 0 => 100
 | 1 => 25
 | 2 => 47
 | 3 => 25
 | _ => 3
def wsz : Nat → Nat
 | 0 => 2
 | _ => 1
structure Hist where
 ps : List (Nat × Nat × List PItem)
 ns : List (Value × Nat × Int)
 vs : List (Value × Nat × Int)
 ls : List (Value × Nat)
def mI (m : Int) : List Value := [.int .i64 m]
def mV (m : Int) : List Value := [.int .i64 m, .int .i64 m]
structure Still (w : World) (h : Hist) : Prop where
 ps : ∀ p ∈ h.ps, PlanAt w p.1 p.2.2 ∧ RPlanAt w p.2.1 p.2.2
 ns : ∀ x ∈ h.ns, w.ownsRow 0 3 1 x.1 x.2.1 (repL (mI x.2.2) x.2.1)
 vs : ∀ x ∈ h.vs, w.ownsRow 0 51 2 x.1 x.2.1 (repL (mV x.2.2) x.2.1)
 ls : ∀ x ∈ h.ls, w.ownsRow 0 3 1 x.1 x.2 (repL (mI (-99)) x.2)
def rowX (h : Hist) : Nat → List Value
 | 0 => h.ps.flatMap fun p => [.pointer (some ⟨p.1, 0, none⟩), .pointer (some ⟨p.2.1, 0, none⟩)]
 | 1 => h.ns.map fun x => x.1
 | 2 => h.vs.map fun x => x.1
 | 3 => h.ls.map fun x => x.1
 | 4 => h.ns.map fun x => .int .i64 x.2.2
 | _ => h.vs.map fun x => .int .i64 x.2.2
def LawG (w : World) (g : Nat) (rx : Nat → List Value) (h : Hist) (X F : Nat → Prop) (r : Nat → LRow) : Prop :=
 Six wty wsz 75 w g F r ∧ (∀ i, i < 6 → (r i).xs = rx i) ∧ (∀ w', w.heap.size ≤ w'.heap.size → (∀ j, F j → w'.heap[j]? = w.heap[j]?) → Still w' h) ∧
 ∀ j, X j → j < w.heap.size ∧ ¬ F j ∧ j ≠ g ∧ ∀ i, i < 6 → (r i).v.ownBlock ≠ some j
def LawAt (w : World) (g : Nat) (h : Hist) (X : Nat → Prop) : Prop := ∃ F r, LawG w g (rowX h) h X F r
theorem LawAt.still {w : World} {g : Nat} {h : Hist} {X : Nat → Prop} (k : LawAt w g h X) : Still w h := by
 obtain ⟨F, r, _, _, h3, _⟩ := k
 exact h3 w (Nat.le_refl _) (fun _ _ => rfl)
theorem LawAt.below {w w' : World} {g : Nat} {h : Hist} {X : Nat → Prop} (k : LawAt w g h X) (b : Below w.heap.size w w') : LawAt w' g h (fun j => X j ∨ (w.heap.size ≤ j ∧ j < w'.heap.size)) := by
 obtain ⟨F, r, h1, h2, h3, h4⟩ := k
 refine ⟨F, r, h1.below b, h2, fun w'' hs hF => h3 w'' (Nat.le_trans b.size hs) (fun j hj => (hF j hj).trans (b.block j (h1.lt j hj))), ?_⟩
 rintro j (hj | ⟨hj1, hj2⟩)
 ·obtain ⟨a1, a2⟩ := h4 j hj
  exact ⟨Nat.lt_of_lt_of_le a1 b.size, a2⟩
 ·refine ⟨hj2, fun hf => ?_, ?_, fun i hi hb => ?_⟩
  ·have := h1.lt j hf
   omega
  ·have := lt_of_block h1.blk
   omega
  ·have := h1.row_lt hi hb
   omega
theorem LawAt.weaken {w : World} {g : Nat} {h : Hist} {X Y : Nat → Prop} (k : LawAt w g h X) (hy : ∀ j, Y j → X j) : LawAt w g h Y := by
 obtain ⟨F, r, h1, h2, h3, h4⟩ := k
 exact ⟨F, r, h1, h2, h3, fun j hj => h4 j (hy j hj)⟩
theorem LawAt.wrote {w w' : World} {g : Nat} {h : Hist} {X : Nat → Prop} (k : LawAt w g h X) (hs : w.heap.size ≤ w'.heap.size) (hb : ∀ j, j < w.heap.size → ¬ X j → w'.heap[j]? = w.heap[j]?) : LawAt w' g h X := by
 obtain ⟨F, r, h1, h2, h3, h4⟩ := k
 refine ⟨F, r, h1.apart hs ?_, h2, fun w'' hs2 hF => h3 w'' (Nat.le_trans hs hs2) (fun j hj => (hF j hj).trans (hb j (h1.lt j hj) (fun hx => (h4 j hx).2.1 hj))), fun j hj => ?_⟩
 ·rintro j hj (rfl | ⟨i, hi, he⟩)
  ·exact hb j hj (fun hx => (h4 j hx).2.2.1 rfl)
  ·exact hb j hj (fun hx => (h4 j hx).2.2.2 i hi he)
 ·obtain ⟨a1, a2⟩ := h4 j hj
  exact ⟨Nat.lt_of_lt_of_le a1 hs, a2⟩
theorem LawAt.gt {w : World} {g : Nat} {h : Hist} {X : Nat → Prop} (k : LawAt w g h X) : g < w.heap.size := by
 obtain ⟨F, r, h1, _⟩ := k
 exact lt_of_block h1.blk
theorem LawAt.new (w : World) : LawAt (w.alloc (.cells #[.slice none 0 0, .slice none 0 0, .slice none 0 0, .slice none 0 0, .slice none 0 0, .slice none 0 0] 75)) w.heap.size ⟨[], [], [], []⟩ (fun _ => False) := by
 refine ⟨fun _ => False, fun _ => ⟨.slice none 0 0, 0, []⟩, ⟨alloc_last w _, fun i _ => World.ownsRow_nil _ _ _ _, fun i _ b hb => by simp [Value.ownBlock] at hb, fun h => h, fun _ h => h.elim⟩, ?_, ?_, fun _ h => h.elim⟩
 ·intro i hi
  rcases (by omega : i = 0 ∨ i = 1 ∨ i = 2 ∨ i = 3 ∨ i = 4 ∨ i = 5) with rfl | rfl | rfl | rfl | rfl | rfl <;> rfl
 ·intro w' _ _
  exact ⟨by simp, by simp, by simp, by simp⟩
def updX (rx : Nat → List Value) (i : Nat) (x : List Value) : Nat → List Value := fun j => if j = i then x else rx j
theorem LawG.push {w w1 : World} {g i : Nat} {rx : Nat → List Value} {h h' : Hist} {X F E : Nat → Prop} {r : Nat → LRow} (k : LawG w g rx h X F r) (hi : i < 6) {g' n' cap H : Nat} {news : List Value} (hg : w.grownBy w1 (r i).v.ownBlock)
  (hown : w1.ownsRow g (wty i) (wsz i) (.slice (some ⟨g', 0, none⟩) n' cap) n' (rx i ++ news)) (hat : (r i).v.ownBlock = some g' ∨ g' = H) (hH : w.heap.size = H)
  (hE : ∀ j, E j → X j) (hst : ∀ w', w.heap.size ≤ w'.heap.size → (∀ j, F j ∨ E j → w'.heap[j]? = w.heap[j]?) → Still w' h') :
  LawG (w1.setCell ⟨g, i, none⟩ (.slice (some ⟨g', 0, none⟩) n' cap)) g (updX rx i (rx i ++ news)) h' (fun j => X j ∧ ¬ E j) (fun j => F j ∨ E j) (updR r i ⟨.slice (some ⟨g', 0, none⟩) n' cap, n', rx i ++ news⟩) ∧
  Below g w (w1.setCell ⟨g, i, none⟩ (.slice (some ⟨g', 0, none⟩) n' cap)) ∧ ∀ j, X j → (w1.setCell ⟨g, i, none⟩ (.slice (some ⟨g', 0, none⟩) n' cap)).heap[j]? = w.heap[j]? := by
 obtain ⟨h1, h2, h3, h4⟩ := k
 have h5 : Six wty wsz 75 w g (fun j => F j ∨ E j) r := h1.more (fun j hj => by
  rcases hj with hj | hj
  ·exact Or.inl hj
  ·obtain ⟨a1, _, a3, a4⟩ := h4 j (hE j hj)
   exact Or.inr ⟨a1, a3, a4⟩)
 obtain ⟨p1, p2, p3⟩ := h5.push hi hg hown hat hH
 have hsz : w.heap.size ≤ (w1.setCell ⟨g, i, none⟩ (.slice (some ⟨g', 0, none⟩) n' cap)).heap.size := p3.size
 have hX : ∀ j, X j → (w1.setCell ⟨g, i, none⟩ (.slice (some ⟨g', 0, none⟩) n' cap)).heap[j]? = w.heap[j]? := fun j hj => by
  obtain ⟨a1, _, a3, a4⟩ := h4 j hj
  exact p2 j a1 a3 (a4 i hi)
 refine ⟨⟨p1, ?_, ?_, ?_⟩, p3, hX⟩
 ·intro j hj
  unfold updR updX
  split
  ·rfl
  ·exact h2 j hj
 ·intro w' hs hF
  refine hst w' (Nat.le_trans hsz hs) (fun j hj => (hF j hj).trans ?_)
  rcases hj with hf | he
  ·exact p2 j (h1.lt j hf) (fun e => h1.still (e ▸ hf)) (fun e => (h1.far i hi j e).2.1 hf)
  ·exact hX j (hE j he)
 ·rintro j ⟨hj, hne⟩
  obtain ⟨a1, a2, a3, a4⟩ := h4 j hj
  refine ⟨Nat.lt_of_lt_of_le a1 hsz, fun hf => hf.elim a2 hne, a3, fun k hk => ?_⟩
  unfold updR
  split
  ·intro e
   simp only [Value.ownBlock, Option.some.injEq] at e
   subst e
   rename_i hki
   subst hki
   rcases hat with e | e
   ·exact a4 k hk e
   ·omega
  ·exact a4 k hk
theorem LawG.at {w : World} {g : Nat} {rx : Nat → List Value} {h : Hist} {X F : Nat → Prop} {r : Nat → LRow} (k : LawG w g rx h X F r) (hx : ∀ i, i < 6 → rx i = rowX h i) : LawAt w g h X :=
 ⟨F, r, k.1, fun i hi => (k.2.1 i hi).trans (hx i hi), k.2.2⟩
theorem LawG.below {w w' : World} {g : Nat} {rx : Nat → List Value} {h : Hist} {X F : Nat → Prop} {r : Nat → LRow} (k : LawG w g rx h X F r) (b : Below w.heap.size w w') : LawG w' g rx h X F r := by
 obtain ⟨h1, h2, h3, h4⟩ := k
 refine ⟨h1.below b, h2, fun w'' hs hF => h3 w'' (Nat.le_trans b.size hs) (fun j hj => (hF j hj).trans (b.block j (h1.lt j hj))), ?_⟩
 intro j hj
 obtain ⟨a1, a2⟩ := h4 j hj
 exact ⟨Nat.lt_of_lt_of_le a1 b.size, a2⟩
theorem LawG.wrote {w w' : World} {g : Nat} {rx : Nat → List Value} {h : Hist} {X F : Nat → Prop} {r : Nat → LRow} (k : LawG w g rx h X F r) (hs : w.heap.size ≤ w'.heap.size) (hb : ∀ j, j < w.heap.size → ¬ X j → w'.heap[j]? = w.heap[j]?) : LawG w' g rx h X F r := by
 obtain ⟨h1, h2, h3, h4⟩ := k
 refine ⟨h1.apart hs ?_, h2, fun w'' hs2 hF => h3 w'' (Nat.le_trans hs hs2) (fun j hj => (hF j hj).trans (hb j (h1.lt j hj) (fun hx => (h4 j hx).2.1 hj))), fun j hj => ?_⟩
 ·rintro j hj (rfl | ⟨i, hi, he⟩)
  ·exact hb j hj (fun hx => (h4 j hx).2.2.1 rfl)
  ·exact hb j hj (fun hx => (h4 j hx).2.2.2 i hi he)
 ·obtain ⟨a1, a2⟩ := h4 j hj
  exact ⟨Nat.lt_of_lt_of_le a1 hs, a2⟩
end Go.Proofs.YtdgbmcbkbkbdoaaGreatDoor
namespace Go.Proofs.YtdgbmcbkbkbdoaaGreatDoor
open Go.RowKit
theorem Tryz.info_ints : (Tryz.prog.info? 25).map (fun i => (i.zero, i.size, i.bytes)) = some (some (.slice none 0 0), 1, 24) := by kernel_rfl
theorem Tryz.info_lvalues : (Tryz.prog.info? 47).map (fun i => (i.zero, i.size, i.bytes)) = some (some (.slice none 0 0), 1, 24) := by kernel_rfl
theorem Tryz.info_pair : (Tryz.prog.info? 100).map (fun i => (i.zero, i.size, i.bytes)) = some (some (.agg #[.pointer none, .pointer none]), 2, 16) := by kernel_rfl
theorem wpList_append_nothing {P : Program} {w : World} {ops : Array Oper} {rest : List Oper} {o : Oper} {a : Act} {Q : Exit → Act → World → Prop} (hgd : o.guard = none) (s x : Operand) (t : TypeId)
  (ho : o.op = .call { callee := .builtin .append, args := #[s, x], argTypes := #[t, t] }) (e : TypeId) (i : TypeInfo) (ht : P.underlying t = some (.slice e)) (hi : P.info? e = some i)
  (ao : Option Addr) (n c : Nat) (hn : n = 0) (hs : a.eval s = .slice none 0 0) (hx : a.eval x = .slice ao n c) (h : wpList P ops Q rest (a.put o.dst (.slice none 0 0)) w) : wpList P ops Q (o :: rest) a w := by
 subst hn
 refine wpList_plain hgd fun K hK => ?_
 have hr : (Builtin.append_ #[t, t] o.type #[.slice none 0 0, .slice ao 0 c]).run P w = .ok (.slice none 0 0) w := by
  cases ao <;> simp [Builtin.append_, run_underlying ht, sizeOf, typeInfo, hi, Builtin.lenOf, Builtin.firstCells, loadCells, loadCellsFrom]
 unfold Oper.wp execOp
 simp only [ho, resolve, invoke, builtin, Sem.run_bind, Sem.run_pure, Result.andThen_ok, List.map_toArray, List.map_cons, List.map_nil, hs, hx, hr]
 exact hK _ _ h
set_option maxRecDepth 100000 in
set_option maxHeartbeats 1600000 in
theorem sameValues_any (a b : Value) (vs : List PVal) (w : World) (ha : SlAt w 2 a vs.length (vs.flatMap vcells)) (hb : SlAt w 2 b vs.length (vs.flatMap vcells)) (hl : vs.length ≤ 1000) :
  Calls Tryz.prog 71 #[a, b] w fun e w' => e = .returned (.bool true) ∧ Below w.heap.size w w' := by
 obtain ⟨ao, ac, rfl⟩ := ha.form
 obtain ⟨bo, bc, rfl⟩ := hb.form
 have HA := hide ha
 have HB := hide hb
 clear ha hb
 go_enter Tryz.func71, Tryz.ntmps71
 go_wp2_with fail
 go_loopg [5] vs.length (fun g i wr => ∃ j : Nat, j ≤ vs.length ∧ g = vs.length - j ∧ i = .int .i64 (j : Int) ∧ Below w.heap.size w wr)
 case atStart => exact ⟨0, by omega, rfl, rfl, Below.refl _ _⟩
 case round =>
  obtain ⟨j, hj, hg, rfl, hb⟩ := hrel
  have A : Aside (gk = vs.length - j ∧ Below w.heap.size w wr) := ⟨hg, hb⟩
  clear hg
  by_cases hlt : j < vs.length
  ·rcases (uh HA).below hb with ⟨h0, _⟩ | ⟨g1, cap1, hv1, hc1, hm1, hgl1, hx1⟩
   ·omega
   rcases (uh HB).below hb with ⟨h0, _⟩ | ⟨g2, cap2, hv2, hc2, hm2, hgl2, hx2⟩
   ·omega
   simp only [Value.slice.injEq] at hv1 hv2
   obtain ⟨rfl, _, rfl⟩ := hv1
   obtain ⟨rfl, _, rfl⟩ := hv2
   have key1 : ∀ i, i < 2 → wr.cell? ⟨g1, j * 2 + i, none⟩ = (vcells vs[j])[i]? := fun i hi => by
    rw [hx1 _ (by omega)]
    exact flat_at vcells 2 (fun _ => rfl) vs j i hlt hi
   have key2 : ∀ i, i < 2 → wr.cell? ⟨g2, j * 2 + i, none⟩ = (vcells vs[j])[i]? := fun i hi => by
    rw [hx2 _ (by omega)]
    exact flat_at vcells 2 (fun _ => rfl) vs j i hlt hi
   have k0 := key1 0 (by omega)
   have k1 := key1 1 (by omega)
   have l0 := key2 0 (by omega)
   have l1 := key2 1 (by omega)
   simp only [vcells, List.getElem?_cons_zero, List.getElem?_cons_succ, Nat.add_zero] at k0 k1 l0 l1
   have hjc : (j : Int) < vs.length := by omega
   generalize vs[j] = x at *
   clear key1 key2 hx1 hx2 hb
   go_wp2_with fail
   go_region
   all_goals
    go_wp2
    go_roundg (vs.length - (j + 1))
    case measure => have := A.out.1; omega
    case rel => exact ⟨j + 1, by omega, rfl, by go_num, A.out.2.drew⟩
  ·have hjc : ¬ (j : Int) < vs.length := by omega
   go_wp2_with fail
   go_ret
   exact ⟨rfl, A.out.2⟩
def lentL (vals : List Int) (k : Nat) : List Value := ints vals ++ List.replicate k (.int .i64 (-77))
theorem lentL_succ (vals : List Int) (j : Nat) : lentL vals (j + 1) = lentL vals j ++ [.int .i64 (-77)] := by
 unfold lentL
 rw [List.replicate_succ', List.append_assoc]
set_option maxRecDepth 100000 in
set_option maxHeartbeats 1600000 in
theorem lend_any (b : Nat) (v : Value) (vals : List Int) (w : World) (hv : InSl w v vals) (hl : (vals.length + 8) * 8 ≤ 140737488355328) :
  Calls Tryz.prog 69 #[.pointer (some ⟨b, 0, none⟩), v] w fun e w' => ∃ g cap, e = .returned (.slice (some ⟨g, 0, none⟩) (vals.length + 8) cap) ∧ Below w.heap.size w w' ∧ w'.ownsRow w.heap.size 3 1 (.slice (some ⟨g, 0, none⟩) (vals.length + 8) cap) (vals.length + 8) (lentL vals 8) := by
 obtain ⟨vo, vc, rfl⟩ := hv.form
 have HV := hide hv
 clear hv
 obtain ⟨i0, hi, hz0, hz1, hz2⟩ := info_parts Tryz.info_int
 by_cases h0 : vals.length = 0
 ·have H0 := hide h0
  clear h0
  go_enter Tryz.func69, Tryz.ntmps69
  go_wp2_with (at_builtin; refine wpList_append_nothing (by rfl) _ _ _ (by rfl) 3 i0 Tryz.underlying25 hi vo vals.length vc (uh H0) (by rfl) (by rfl) ?_)
  go_loopg [5, 6] 8 (fun gk pv iv wr => ∃ j : Nat, j ≤ 8 ∧ gk = 8 - j ∧ iv = .int .i64 (j : Int) ∧ Below w.heap.size w wr ∧ wr.ownsRow w.heap.size 3 1 pv (vals.length + j) (lentL vals j))
  case atStart => exact ⟨0, by omega, rfl, rfl, Below.refl _ _, by rw [uh H0, show lentL vals 0 = [] by have := List.eq_nil_of_length_eq_zero (uh H0); rw [this]; rfl]; exact World.ownsRow_nil _ _ _ _⟩
  case round =>
   obtain ⟨j, hj, hg, rfl, hb, hown⟩ := hrel
   have A : Aside (gk = 8 - j ∧ Below w.heap.size w wr ∧ wr.ownsRow w.heap.size 3 1 u5 (vals.length + j) (lentL vals j)) := ⟨hg, hb, hown⟩
   have hsz := hb.size
   clear hg hb hown
   by_cases hlt : j < 8
   ·have hjc : (j : Int) < 8 := by omega
    go_wp2_with (at_builtin; refine wpList_append_lies _ (by rfl) _ _ _ (by rfl) w.heap.size 3 i0 _ 1 8 Tryz.underlying25 hi hz0 hz1 hz2 rfl (by decide) u5 (vals.length + j) (lentL vals j) (by rfl) (A.out.2.2.alloc _) ⟨wr.heap.size, 0, none⟩ 1 1 [.int .i64 (-77)] (by rfl) (by rfl) (World.news_of_block (cs := #[.int .i64 (-77)]) (t := 3) (fr := (0, 0)) (heap_alloc_new wr _)) (by simp [Value.oneCell']) (by decide) (by unfold maxLen; omega) (by omega) (by simp; omega) (wr.heap.size + 1) (by simp) ?_; intro gg cap w7 hown7 hgrow7 hat7 hlt7; have AB := hide (And.intro (below_grown (A.out.2.1.alloc hsz _) hgrow7 (fun q hq => (A.out.2.2.lt q hq).1)) hown7); clear hown7 hgrow7 hat7 hlt7)
    go_roundg (8 - (j + 1))
    case measure => have := A.out.1; omega
    case rel => exact ⟨j + 1, by omega, rfl, by go_num, (uh AB).1, by rw [lentL_succ, ← Nat.add_assoc]; exact (uh AB).2⟩
   ·have hje : j = 8 := by omega
    subst hje
    obtain ⟨q, qc, hq, _⟩ := A.out.2.2.form (by omega)
    go_wp2_with fail
    go_ret
    subst hq
    exact ⟨q, qc, rfl, A.out.2.1, A.out.2.2⟩
 ·have hpos : 0 < vals.length := by omega
  rcases uh HV with ⟨h0', _⟩ | ⟨g, off, cap, hvv, hc, hm, hgl, hx⟩
  ·rw [h0'] at h0; simp at h0
  simp only [Value.slice.injEq] at hvv
  obtain ⟨rfl, _, rfl⟩ := hvv
  have HNW : Hid (∀ j u, (ints vals)[j]? = some u → w.cell? ((⟨g, off, none⟩ : Addr).add j) = some u) := hide (fun j u hu => by
   rw [Addr.add_lit]
   unfold ints at hu
   rw [List.getElem?_map] at hu
   cases hq : vals[j]? with
   | none => rw [hq] at hu; simp at hu
   | some y =>
    rw [hq] at hu
    simp only [Option.map_some, Option.some.injEq] at hu
    rw [← hu]
    exact hx j y hq)
  clear hx
  go_enter Tryz.func69, Tryz.ntmps69
  go_wp2_with (at_builtin; refine wpList_append_lies _ (by rfl) _ _ _ (by rfl) w.heap.size 3 i0 _ 1 8 Tryz.underlying25 hi hz0 hz1 hz2 rfl (by decide) (.slice none 0 0) 0 [] (by rfl) (World.ownsRow_nil _ _ _ _) ⟨g, off, none⟩ vals.length vc (ints vals) (by rfl) (by simp [ints]) (uh HNW) (by simp [ints, Value.oneCell']) hpos (by unfold maxLen; omega) (by omega) (Nat.le_refl _) w.heap.size rfl ?_; intro gg cap w7 hown7 hgrow7 hat7 hlt7; have AB := hide (And.intro (below_grown (Below.refl _ _) hgrow7 (fun q hq => by simp [Value.ownBlock] at hq)) hown7); clear hown7 hgrow7 hat7 hlt7)
  go_loopg [5, 6] 8 (fun gk pv iv wr => ∃ j : Nat, j ≤ 8 ∧ gk = 8 - j ∧ iv = .int .i64 (j : Int) ∧ Below w.heap.size w wr ∧ wr.ownsRow w.heap.size 3 1 pv (vals.length + j) (lentL vals j))
  case atStart => exact ⟨0, by omega, rfl, rfl, (uh AB).1, by have := (uh AB).2; simp only [Nat.zero_add, List.nil_append] at this; simpa [lentL] using this⟩
  case round =>
   obtain ⟨j, hj, hg, rfl, hb, hown⟩ := hrel
   have A : Aside (gk = 8 - j ∧ Below w.heap.size w wr ∧ wr.ownsRow w.heap.size 3 1 u5 (vals.length + j) (lentL vals j)) := ⟨hg, hb, hown⟩
   have hsz := hb.size
   clear hg hb hown
   by_cases hlt : j < 8
   ·have hjc : (j : Int) < 8 := by omega
    go_wp2_with (at_builtin; refine wpList_append_lies _ (by rfl) _ _ _ (by rfl) w.heap.size 3 i0 _ 1 8 Tryz.underlying25 hi hz0 hz1 hz2 rfl (by decide) u5 (vals.length + j) (lentL vals j) (by rfl) (A.out.2.2.alloc _) ⟨wr.heap.size, 0, none⟩ 1 1 [.int .i64 (-77)] (by rfl) (by rfl) (World.news_of_block (cs := #[.int .i64 (-77)]) (t := 3) (fr := (0, 0)) (heap_alloc_new wr _)) (by simp [Value.oneCell']) (by decide) (by unfold maxLen; omega) (by omega) (by simp; omega) (wr.heap.size + 1) (by simp) ?_; intro gg cap w7 hown7 hgrow7 hat7 hlt7; have AC := hide (And.intro (below_grown (A.out.2.1.alloc hsz _) hgrow7 (fun q hq => (A.out.2.2.lt q hq).1)) hown7); clear hown7 hgrow7 hat7 hlt7)
    go_roundg (8 - (j + 1))
    case measure => have := A.out.1; omega
    case rel => exact ⟨j + 1, by omega, rfl, by go_num, (uh AC).1, by rw [lentL_succ, ← Nat.add_assoc]; exact (uh AC).2⟩
   ·have hje : j = 8 := by omega
    subst hje
    obtain ⟨q, qc, hq, _⟩ := A.out.2.2.form (by omega)
    go_wp2_with fail
    go_ret
    subst hq
    exact ⟨q, qc, rfl, A.out.2.1, A.out.2.2⟩
end Go.Proofs.YtdgbmcbkbkbdoaaGreatDoor
