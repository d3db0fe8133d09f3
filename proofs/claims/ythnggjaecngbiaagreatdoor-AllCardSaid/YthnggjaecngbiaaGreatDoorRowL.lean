/-
 The statement 'All' of the program: its row and its card. By the verifier, with the kit's own builders. No macro, syntax, notation, axiom, sorry.
-/
import Derived.Test.YthnggjaecngbiaaGreatDoorCards
import Derived.Test.YthnggjaecngbiaaGreatDoorTie
import Derived.WalkKit
import Derived.ProofKit
import Derived.OpenShut
import Derived.Carry
import Derived.Deep.Slices
import Derived.Deep.DeepHandedRow
import Derived.Lib.LaidTab
import Derived.Stop.LaidErr
import Derived.SizedLaws
import Derived.Test.YthnggjaecngbiaaGreatDoorRsF
namespace Go.Proofs.YthnggjaecngbiaaGreatDoor.all
open Go.ChangeShapes Go.WideShapes Go.ChangeAt Go.RowKit
theorem own : ownKnob Tryz.prog.godebug = none := by kernel_rfl
theorem gTab : Tryz.prog.globalNamed "internal/strconv.uint64pow10" = some 1 := by kernel_rfl
theorem gTabType : (Tryz.prog.globals[1]?).map (·.type) = some 250 := by kernel_rfl
theorem cellsTab : Tryz.prog.cellsOf 250 = 20 := by kernel_rfl
theorem cellsU64 : Tryz.prog.cellsOf 234 = 1 := by kernel_rfl
theorem cellsOp : Tryz.prog.cellsOf 82 = 5 := by kernel_rfl
theorem cellsInt : Tryz.prog.cellsOf 3 = 1 := by kernel_rfl
theorem cellsStr : Tryz.prog.cellsOf 9 = 1 := by kernel_rfl
theorem cellsInts : Tryz.prog.cellsOf 25 = 1 := by kernel_rfl
theorem laidOut : laidOutB Tryz.prog = true := by kernel_rfl
theorem table {W : World} (h : laidMetH Tryz.prog Rows.allRow.laid W) : Tab W :=
 Lib.tabIs_of_head (rest := []) gTab gTabType Tryz.underlying250 Tryz.underlying234 cellsU64 cellsTab (laidMet.tail (laidMet.tail h))
theorem bytesInt : Tryz.prog.bytesOf 3 = 8 := by kernel_rfl
theorem bytesOp : Tryz.prog.bytesOf 82 = 64 := by kernel_rfl
theorem e_int_wf {n : Int} (h : (Lit.int .i64 n).wf = true) : -9223372036854775808 ≤ n ∧ n ≤ 9223372036854775807 := by
 simp [Lit.wf, IntKind.min, IntKind.max, IntKind.signed, IntKind.bits] at h
 omega
set_option maxRecDepth 100000 in
theorem open_vals {H : Type} {enc : TypeId × Value → H} {W : World} {base : Nat} {sp : Nat → Bool} {held : Bool} {n : Nat} {v : Value} {y : DataW H × List MemPlace} (h : DataW.trod enc Tryz.prog W base sp held n 25 [v] = some y) :
  ∃ vo vn vc vals, v = .slice vo vn vc ∧ InSl W (.slice vo vn vc) vals ∧ (vals.length = 0 ∨ ∃ m ∈ y.1.weights Tryz.prog 25, vals.length * 8 ≤ m) := by
 rcases Deep.open_slice1 Tryz.underlying25 cellsInt h with ⟨h0, _⟩ | ⟨a, len, cap, m, k, V, D, Pl, hcs, hb, hl, hm, hmm, hx, hall⟩
 ·have e := List.head_eq_of_cons_eq h0
  subst e
  exact ⟨none, 0, 0, [], rfl, Or.inl ⟨rfl, _, _, rfl⟩, Or.inl rfl⟩
 ·have e := List.head_eq_of_cons_eq hcs
  subst e
  have hlm : len ≤ m := by rw [hmm]; split <;> omega
  by_cases hz : len = 0
  ·subst hz
   exact ⟨_, _, _, [], rfl, Or.inl ⟨rfl, _, _, rfl⟩, Or.inl rfl⟩
  ·have each : ∀ i, i < len → ∃ q : Int, W.cell? (a.add i) = some (.int .i64 q) := fun i hi => by
    obtain ⟨h1, h2⟩ := hall i (by omega)
    obtain ⟨q, e, _⟩ := DataW.trod_int Tryz.underlying3 h2
    have e := List.head_eq_of_cons_eq e
    exact ⟨q, by rw [h1, e]⟩
   obtain ⟨q, hq⟩ := Deep.choose_lt each
   have hlen : ((List.range len).map q).length = len := by simp
   obtain ⟨g, off, spot⟩ := a
   have h000 := hq 0 (by omega)
   have hspot : spot = none := by simpa [Addr.add] using World.cell?_spot h000
   clear h000
   subst hspot
   have hg : g < W.heap.size := by
    have h00 := hq 0 (by omega)
    rcases Nat.lt_or_ge g W.heap.size with h | h
    ·exact h
    ·simp [World.cell?, Addr.add, Array.getElem?_eq_none h] at h00
   refine ⟨_, _, _, (List.range len).map q, rfl, Or.inr ⟨g, off, cap, by rw [hlen], by rw [hlen]; exact hl, hm, hg, ?_⟩, Or.inr ⟨(len + (m - len)) * 8, ?_, by rw [hlen]; exact Nat.mul_le_mul_right 8 (by omega)⟩⟩
   ·intro j x hj
    have hjl : j < len := by have := (List.getElem?_eq_some_iff.1 hj).1; rw [hlen] at this; exact this
    have ho : x = q j := by
     rw [List.getElem?_map, List.getElem?_range hjl] at hj
     simpa using hj.symm
    subst ho
    have := hq j hjl
    rw [add_plain] at this
    exact this
   ·subst hx
    simp [DataW.weights, Tryz.underlying25, bytesInt]
set_option maxRecDepth 100000 in
theorem open_op {H : Type} {enc : TypeId × Value → H} {W : World} {base : Nat} {sp : Nat → Bool} {held : Bool} {n : Nat} {cs : List Value} {x : DataW H × List MemPlace} (h : DataW.trod enc Tryz.prog W base sp held n 82 cs = some x) :
  ∃ (o : OpD) (vals : List Int), cs = [.int .i64 o.k, .int .i64 o.p, .string o.s, .int .i64 o.c, .slice o.vo o.vn o.vc] ∧ o.s.size ≤ maxLen ∧ (-9223372036854775808 ≤ o.p ∧ o.p ≤ 9223372036854775807) ∧ InSl W (.slice o.vo o.vn o.vc) vals ∧ (vals.length = 0 ∨ ∃ m ∈ x.1.weights Tryz.prog 82, vals.length * 8 ≤ m) := by
 obtain ⟨xs, k, hk, hxy, hl, hxl, hf⟩ := DataW.trod_struct Tryz.underlying82 h
 rw [cellsOp] at hl
 match xs, hxl, cs, hl with
 | [y0, y1, y2, y3, y4], _, [v0, v1, v2, v3, v4], _ =>
  have g0 : DataW.trod enc Tryz.prog W base sp held k 3 [v0] = some y0 := by
   have h : DataW.trod enc Tryz.prog W base sp held k 3 (List.take (Tryz.prog.cellsOf 3) (List.drop 0 [v0, v1, v2, v3, v4])) = some y0 := hf 0 _ rfl
   rw [cellsInt] at h
   exact h
  have g1 : DataW.trod enc Tryz.prog W base sp held k 3 [v1] = some y1 := by
   have h : DataW.trod enc Tryz.prog W base sp held k 3 (List.take (Tryz.prog.cellsOf 3) (List.drop 1 [v0, v1, v2, v3, v4])) = some y1 := hf 1 _ rfl
   rw [cellsInt] at h
   exact h
  have g2 : DataW.trod enc Tryz.prog W base sp held k 9 [v2] = some y2 := by
   have h : DataW.trod enc Tryz.prog W base sp held k 9 (List.take (Tryz.prog.cellsOf 9) (List.drop 2 [v0, v1, v2, v3, v4])) = some y2 := hf 2 _ rfl
   rw [cellsStr] at h
   exact h
  have g3 : DataW.trod enc Tryz.prog W base sp held k 3 [v3] = some y3 := by
   have h : DataW.trod enc Tryz.prog W base sp held k 3 (List.take (Tryz.prog.cellsOf 3) (List.drop 3 [v0, v1, v2, v3, v4])) = some y3 := hf 3 _ rfl
   rw [cellsInt] at h
   exact h
  have g4 : DataW.trod enc Tryz.prog W base sp held k 25 [v4] = some y4 := by
   have h : DataW.trod enc Tryz.prog W base sp held k 25 (List.take (Tryz.prog.cellsOf 25) (List.drop 4 [v0, v1, v2, v3, v4])) = some y4 := hf 4 _ rfl
   rw [cellsInts] at h
   exact h
  obtain ⟨n0, e0, _⟩ := DataW.trod_int Tryz.underlying3 g0
  obtain ⟨n1, e1, _, r1⟩ := DataW.trod_int Tryz.underlying3 g1
  obtain ⟨s, e2, _, hs⟩ := DataW.trod_string Tryz.underlying9 g2
  obtain ⟨n3, e3, _⟩ := DataW.trod_int Tryz.underlying3 g3
  obtain ⟨vo, vn, vc, vals, rfl, hin, hw⟩ := open_vals g4
  have e0 := List.head_eq_of_cons_eq e0
  have e1 := List.head_eq_of_cons_eq e1
  have e2 := List.head_eq_of_cons_eq e2
  have e3 := List.head_eq_of_cons_eq e3
  subst e0 e1 e2 e3
  refine ⟨⟨n0, n1, s, n3, vo, vn, vc⟩, vals, rfl, hs, ?_, hin, ?_⟩
  ·exact e_int_wf r1
  ·rcases hw with hw | ⟨m, hm, hle⟩
   ·exact Or.inl hw
   ·refine Or.inr ⟨m, ?_, hle⟩
    rw [hxy]
    simp only [DataW.weights, Tryz.underlying82]
    exact DataW.weights_mem_each (j := 4) (t := 25) (d := y4.1) (by rfl) (by rfl) m hm
set_option maxRecDepth 100000 in
theorem weights_all {H : Type} {P : Program} {e : TypeId} : ∀ (l : List (DataW H)) (d : DataW H), d ∈ l → ∀ n ∈ d.weights P e, n ∈ DataW.weightsAll P e l
 | [], _, h, _, _ => by cases h
 | d0 :: l, d, h, n, hn => by
  simp only [DataW.weightsAll, List.mem_append]
  rcases List.mem_cons.1 h with rfl | h
  ·exact Or.inl hn
  ·exact Or.inr (weights_all l d h n hn)
set_option maxRecDepth 100000 in
theorem open_ops {H : Type} {enc : TypeId × Value → H} {W : World} {base b0 : Nat} {r : Reach} {sp : Nat → Bool} {held : Bool} {v : Value} {d : DataW H} {ps : List MemPlace} (hval : Value.okWide Tryz.prog W r b0 22 v) (hd : DataW.Trod enc Tryz.prog W base sp held 22 v d ps) :
  ∃ ops, OpsV W v ops ∧ (ops.length = 0 ∨ ∃ m ∈ d.weights Tryz.prog 22, ops.length * 64 ≤ m) ∧ ∀ o ∈ ops, ∃ vals, o.s.size ≤ maxLen ∧ (-9223372036854775808 ≤ o.p ∧ o.p ≤ 9223372036854775807) ∧ InSl W (.slice o.vo o.vn o.vc) vals ∧ (vals.length = 0 ∨ ∃ m ∈ d.weights Tryz.prog 22, vals.length * 8 ≤ m) := by
 obtain ⟨a, len, cap, rfl⟩ := okWide_slice Tryz.underlying22 hval
 obtain ⟨fuel, hf⟩ := hd
 have hc : (Value.slice a len cap).cells.toList = [.slice a len cap] := by simp [Value.cells]
 rw [hc] at hf
 rcases Deep.open_slice Tryz.underlying22 hf with ⟨h0, _⟩ | ⟨a', len', cap', m, n, D, Pl, hcs, hb, hl, hm, hmm, hx, hall⟩
 ·simp only [List.cons.injEq, Value.slice.injEq, and_true] at h0
  obtain ⟨rfl, rfl, rfl⟩ := h0
  exact ⟨[], Or.inl ⟨rfl, _, _, rfl⟩, Or.inl rfl, by simp⟩
 ·simp only [List.cons.injEq, Value.slice.injEq, and_true] at hcs
  obtain ⟨rfl, rfl, rfl⟩ := hcs
  have hlm : len ≤ m := by rw [hmm]; split <;> omega
  have each : ∀ i, i < len → ∃ o : OpD, (∀ k, k < 5 → W.cell? (a'.add (i * 5 + k)) = ([.int .i64 o.k, .int .i64 o.p, .string o.s, .int .i64 o.c, .slice o.vo o.vn o.vc] : List Value)[k]?) ∧ ∃ vals, o.s.size ≤ maxLen ∧ (-9223372036854775808 ≤ o.p ∧ o.p ≤ 9223372036854775807) ∧ InSl W (.slice o.vo o.vn o.vc) vals ∧ (vals.length = 0 ∨ ∃ mm ∈ (D i).weights Tryz.prog 82, vals.length * 8 ≤ mm) := by
   intro i hi
   obtain ⟨cs', h1, h2⟩ := hall i (by omega)
   rw [cellsOp] at h1
   obtain ⟨_, _, hcell⟩ := World.cells?_some h1
   obtain ⟨o, vals, rfl, hs, hp, hin, hw⟩ := open_op h2
   exact ⟨o, fun k hk => by rw [← Deep.add_add]; exact hcell k hk, vals, hs, hp, hin, hw⟩
  haveI : Inhabited OpD := ⟨⟨0, 0, ⟨#[]⟩, 0, none, 0, 0⟩⟩
  obtain ⟨q, hq⟩ := Deep.choose_lt each
  have hlen : ((List.range len).map q).length = len := by simp
  by_cases hz : len = 0
  ·subst hz
   exact ⟨[], Or.inl ⟨rfl, _, _, rfl⟩, Or.inl rfl, by simp⟩
  ·have h00 := (hq 0 (by omega)).1 0 (by omega)
   obtain ⟨g, off, spot⟩ := a'
   have hspot : spot = none := by simpa [Addr.add] using World.cell?_spot h00
   subst hspot
   have hg : g < W.heap.size := by
    rcases Nat.lt_or_ge g W.heap.size with h | h
    ·exact h
    ·simp [World.cell?, Addr.add, Array.getElem?_eq_none h] at h00
   simp only [Prod.mk.injEq] at hx
   obtain ⟨rfl, -⟩ := hx
   refine ⟨(List.range len).map q, Or.inr ⟨g, off, cap, by rw [hlen], by rw [hlen]; exact hl, hm, hg, ?_⟩, Or.inr ⟨(len + (m - len)) * 64, ?_, by rw [hlen]; exact Nat.mul_le_mul_right 64 (by omega)⟩, ?_⟩
   ·intro j o hj
    have hjl : j < len := by have := (List.getElem?_eq_some_iff.1 hj).1; rw [hlen] at this; exact this
    have ho : o = q j := by
     rw [List.getElem?_map, List.getElem?_range hjl] at hj
     simpa using hj.symm
    subst ho
    have hk := (hq j hjl).1
    have p0 := hk 0 (by omega)
    have p1 := hk 1 (by omega)
    have p2 := hk 2 (by omega)
    have p3 := hk 3 (by omega)
    have p4 := hk 4 (by omega)
    rw [add_plain] at p0 p1 p2 p3 p4
    simp only [List.getElem?_cons_zero, List.getElem?_cons_succ, Nat.add_zero, ← Nat.add_assoc] at p0 p1 p2 p3 p4
    exact ⟨p0, p1, p2, p3, p4⟩
   ·simp [DataW.weights, Tryz.underlying22, bytesOp]
   ·intro o ho
    rw [List.mem_map] at ho
    obtain ⟨i, hi, rfl⟩ := ho
    obtain ⟨vals, h1, h2, h3, h4⟩ := (hq i (List.mem_range.1 hi)).2
    refine ⟨vals, h1, h2, h3, ?_⟩
    rcases h4 with h4 | ⟨mm, h5, h6⟩
    ·exact Or.inl h4
    ·refine Or.inr ⟨mm, ?_, h6⟩
     simp only [DataW.weights, Tryz.underlying22, List.mem_cons, List.mem_append]
     exact Or.inr (Or.inl (weights_all _ _ (List.mem_map.2 ⟨i, hi, rfl⟩) mm h5))
set_option maxRecDepth 100000 in
theorem contract (H : Type) (enc : TypeId × Value → H) (W : World) (base : Nat) (args : Array Value) (ds gs : List (DataW H)) (before : List MemPlace)
  (hval : ∀ (j : Nat) t v, Tryz.f10.params[j]? = some t → args[j]? = some v → Value.okWide Tryz.prog W .any base t v)
  (hW : DataW.Whole enc Tryz.prog Tryz.f10.params.toList Rows.allSpec.vars false W args.toList ds gs before)
  (hZ : (DataW.weightsEach Tryz.prog (Tryz.f10.params.toList ++ (OpenSpec.ofChange Rows.allSpec).bare.plain.varTypes Tryz.prog) (ds ++ gs)).all (· ≤ reachBytes) = true)
  (hL : laidMetH Tryz.prog Rows.allRow.laid W) :
  Calls Tryz.prog 10 args W fun e W' => ∃ v, e = .returned v ∧ Rows.allSpec.post enc Tryz.prog Tryz.f10 false true false false W args v W' := by
 have hW' := hW
 obtain ⟨p, q, hA0, hV, rfl, hfz, hnd⟩ := hW
 have hA : DataW.TrodAll enc Tryz.prog W 0 (fun _ => true) true Tryz.f10.params.toList args.toList ds p := hA0
 rw [Tryz.params10] at hA hval hZ
 obtain ⟨v0, vs0, d0, ds0, p0, q0, hargs, rfl, rfl, h0, r0⟩ := trodAll_cons hA
 obtain ⟨rfl, rfl, rfl⟩ := trodAll_nil r0
 obtain rfl : args = #[v0] := by cases args; simp_all
 obtain ⟨rfl, rfl⟩ := trodVars_none hV
 obtain ⟨ops, hops, hlen, hsz⟩ := open_ops (hval 0 22 v0 (by simp) (by simp)) h0
 have hall : ∀ m ∈ d0.weights Tryz.prog 22, m ≤ 140737488351232 := fun m hm => by
  have h1 := List.all_eq_true.1 hZ m (DataW.weights_mem_each (j := 0) (t := 22) (d := d0) (by rfl) (by rfl) m hm)
  exact of_decide_eq_true h1
 have hn : ops.length ≤ 2199023255552 := by
  rcases hlen with h | ⟨m, h1, h2⟩
  ·omega
  ·have := hall m h1
   omega
 have hok : ∀ o ∈ ops, ∃ vals, OpOk W o vals := fun o ho => by
  obtain ⟨vals, h1, h2, h3, h4⟩ := hsz o ho
  refine ⟨vals, h1, h2.1, h2.2, h3, ?_⟩
  rcases h4 with h | ⟨m, h5, h6⟩
  ·rw [h]; decide
  ·have := hall m h5
   omega
 have hlt : ∀ x ∈ p0, x.block < W.heap.size := fun x hx => by simpa using hW'.lt x (by simpa using hx)
 clear hA0
 refine (allLaw_any v0 ops W hops hok hn (table hL)).mono fun e W' ⟨he, hb⟩ => ?_
 subst he
 exact ⟨_, rfl, _, _, _, [], _, [], hW', trodAll_mk1 (shut_bool Tryz.underlying4 _), trodAll_mk1 (Below.trod laidOut (by kernel_rfl) (of_decide_eq_true (by kernel_rfl)) h0 hb hlt), rfl, hb.frame _, fun h => by cases h⟩
def withTabs (w : World) : World :=
 { w with heap := ((w.heap.modify 1 fun
   | .cells _ t frozen => .cells #[.int .u64 1, .int .u64 10, .int .u64 100, .int .u64 1000, .int .u64 10000, .int .u64 100000, .int .u64 1000000, .int .u64 10000000, .int .u64 100000000, .int .u64 1000000000, .int .u64 10000000000, .int .u64 100000000000, .int .u64 1000000000000, .int .u64 10000000000000, .int .u64 100000000000000, .int .u64 1000000000000000, .int .u64 10000000000000000, .int .u64 100000000000000000, .int .u64 1000000000000000000, .int .u64 10000000000000000000] t frozen
   | o => o).modify 2 fun
   | .cells _ t frozen => .cells #[.int .u8 0, .int .u8 1, .int .u8 28, .int .u8 2, .int .u8 29, .int .u8 14, .int .u8 24, .int .u8 3, .int .u8 30, .int .u8 22, .int .u8 20, .int .u8 15, .int .u8 25, .int .u8 17, .int .u8 4, .int .u8 8, .int .u8 31, .int .u8 27, .int .u8 13, .int .u8 23, .int .u8 21, .int .u8 19, .int .u8 16, .int .u8 7, .int .u8 26, .int .u8 12, .int .u8 18, .int .u8 6, .int .u8 11, .int .u8 5, .int .u8 10, .int .u8 9] t frozen
   | o => o).modify 3 fun
   | .cells _ t frozen => .cells #[.int .u8 0, .int .u8 1, .int .u8 56, .int .u8 2, .int .u8 57, .int .u8 49, .int .u8 28, .int .u8 3, .int .u8 61, .int .u8 58, .int .u8 42, .int .u8 50, .int .u8 38, .int .u8 29, .int .u8 17, .int .u8 4, .int .u8 62, .int .u8 47, .int .u8 59, .int .u8 36, .int .u8 45, .int .u8 43, .int .u8 51, .int .u8 22, .int .u8 53, .int .u8 39, .int .u8 33, .int .u8 30, .int .u8 24, .int .u8 18, .int .u8 12, .int .u8 5, .int .u8 63, .int .u8 55, .int .u8 48, .int .u8 27, .int .u8 60, .int .u8 41, .int .u8 37, .int .u8 16, .int .u8 46, .int .u8 35, .int .u8 44, .int .u8 21, .int .u8 52, .int .u8 32, .int .u8 23, .int .u8 11, .int .u8 54, .int .u8 26, .int .u8 40, .int .u8 15, .int .u8 34, .int .u8 20, .int .u8 31, .int .u8 10, .int .u8 25, .int .u8 14, .int .u8 19, .int .u8 9, .int .u8 13, .int .u8 8, .int .u8 7, .int .u8 6] t frozen
   | o => o }
set_option maxRecDepth 100000 in
theorem laid_met (os : Os) : laidMet Tryz.prog Rows.allRow.laid ((withTabs (World.holding Tryz.prog os ⟨#[], #[], []⟩)).forCall (fun _ _ => 0) ⟨#[], #[.slice none 0 0], []⟩).memory :=
 laidMet_of_run' 8 (by kernel_rfl) (by kernel_rfl)
theorem reads (os : Os) {H : Type} (enc : TypeId × Value → H) : ∃ places, DataW.whole enc Tryz.prog ((withTabs (World.holding Tryz.prog os ⟨#[], #[], []⟩)).forCall (fun _ _ => 0) ⟨#[], #[.slice none 0 0], []⟩).memory Tryz.f10.params.toList Rows.allSpec.vars false #[Value.slice none 0 0].toList 8 = some ([.nil], [], places) :=
 ⟨[], by kernel_rfl⟩
set_option maxRecDepth 100000 in
theorem lifted (os : Os) (started : os.Started) (H : Type) (enc : TypeId × Value → H) (F : Stop.Interp) :
  ReturnsInHanded {} Tryz.checked os 10 .any ((OpenSpec.ofChange Rows.allSpec).preRow enc Tryz.prog Tryz.f10 Rows.allRow.domain false Rows.allRow.laid) (((OpenSpec.ofChange Rows.allSpec).at F).post enc Tryz.prog Tryz.f10 false true false false) := by
 obtain ⟨places, hx⟩ := reads os enc
 refine returnsInHanded_of_row (C := Tryz.checked) (s := OpenSpec.ofChange Rows.allSpec) own started (by kernel_rfl) Tryz.func10
  (witness_row_at (enc := enc) (C := Tryz.checked) false (withTabs (World.holding Tryz.prog os ⟨#[], #[], []⟩)) #[.slice none 0 0] rfl (by kernel_rfl) (by kernel_rfl) (by kernel_rfl)
   (OpenSpec.preRow_of_cond 8 hx (by kernel_rfl) (fun k hk => by cases hk) (by kernel_rfl) (laid_met os))) ?_
 intro W base args ds gs before hval hW _ _ hZ hL _ _
 exact contract H enc W base args ds gs before hval hW hZ hL
theorem said : Rows.AllSaid :=
 OpenClaim.holds_of_cond 10 Tryz.f10 rfl rfl rfl rfl rfl rfl rfl ⟨rfl, rfl, rfl, rfl, rfl⟩ rfl rfl rfl rfl rfl (by kernel_rfl) Tryz.func10 (by kernel_rfl)
  (of_decide_eq_true (by kernel_rfl)) (by unfold Func.isWrapper; first | (rw [if_pos (by decide +kernel)]; kernel_rfl) | (rw [if_neg (by decide +kernel)]; exact ⟨rfl, rfl⟩))
  (fun os started H enc _ F => by rw [OpenClaim.pre_eq_preRow]; exact lifted os started H enc F)
theorem plain (f : FuncId) (fn : Func) (hf : Tryz.pinned.checked.prog.funcNamed "curtain/curtainlaw.All" = some f) (hfn : Tryz.pinned.checked.prog.funcs[f]? = some fn) :
  true = Tryz.pinned.checked.prog.looks [] ∧ ∀ (j : Nat) t, fn.params[j]? = some t → Tryz.pinned.checked.prog.wantsStandIn t = false := by
 obtain rfl : f = 10 := Option.some.inj ((show Tryz.prog.funcNamed "curtain/curtainlaw.All" = some 10 by kernel_rfl).symm.trans hf) |>.symm
 obtain rfl : fn = Tryz.f10 := (Option.some.inj (Tryz.func10.symm.trans hfn)).symm
 refine ⟨by kernel_rfl, fun j t ht => ?_⟩
 rw [Tryz.params10] at ht
 obtain rfl : t = 22 := by simpa using Array.mem_of_getElem? ht
 exact (show Tryz.prog.wantsStandIn 22 = false by kernel_rfl)
theorem card : Rows.AllCardSaid :=
 Claim7.holds_tied_plain_at .later [] _ _ _ _ said (fun _ h => by cases h) (by kernel_rfl) (fun _ h => by cases h) all_row_tie rfl ⟨rfl, rfl⟩ (by kernel_rfl) rfl plain (by kernel_rfl)
end Go.Proofs.YthnggjaecngbiaaGreatDoor.all
