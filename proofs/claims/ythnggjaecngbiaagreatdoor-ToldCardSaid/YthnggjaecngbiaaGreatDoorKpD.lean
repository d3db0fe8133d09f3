import Derived.Test.YthnggjaecngbiaaGreatDoorKqA
import Derived.Test.YthnggjaecngbiaaGreatDoorRows
import Derived.WalkKit
import Derived.ProofKit
import Derived.OpenShut
import Derived.Carry
import Derived.Deep.Slices
import Derived.Deep.DeepHandedRow
import Derived.Lib.LaidTab
import Derived.Stop.LaidErr
import Derived.SizedLaws
import Derived.ChangeSlices
namespace Go.Proofs.YthnggjaecngbiaaGreatDoor
open Go.RowKit

theorem Tryz.info_kitem : (Tryz.prog.info? 45).map (fun i => (i.zero, i.size, i.bytes)) = some (some (.agg #[.string ByteArray.empty, .bool false, .bool false]), 3, 24) := by kernel_rfl

/-- What a text stands for: its plan, or the document's example. -/
def planK (s : ByteArray) : List PItem := match planOf s with | .inr its => its | .inl _ => exItems
theorem planK_ok (s : ByteArray) : OkPlan (planK s) := by
  unfold planK
  cases h : planOf s with
  | inr its => exact planOf_ok h
  | inl _ => exact planOf_ok ex_items
def kOf (it : PItem) : KItem := ⟨it.name, it.isT, decide (it.drops ≠ 0)⟩
def kis (its : List PItem) : List Value := its.flatMap fun it => kcells (kOf it)
/-- A run: its block, the plan's, the items. -/
def RunAt (base : Nat) (w : World) (b : Nat) (its : List PItem) : Prop :=
  ∃ g v, w.heap[b]? = some (.cells #[.pointer (some ⟨g, 0, none⟩), v, .int .i64 (inputsP its : Int)] 38) ∧ PlanAt w g its ∧ w.ownsRow base 45 3 v its.length (kis its)
theorem RunAt.below {base : Nat} {w w' : World} {b : Nat} {its : List PItem} (h : RunAt base w b its) (g : Below w.heap.size w w') : RunAt base w' b its := by
  obtain ⟨p, v, h1, h2, h3⟩ := h
  exact ⟨p, v, (g.block b (lt_of_block h1)).trans h1, h2.below g, owns_below h3 g⟩

def foldV (v : Int) : Int := if v < -1000000 ∨ 1000000 < v then (pickP v 2000001 : Int) - 1000000 else v
def valK (raw : List Int) (i : Nat) : Int := match raw[i]? with | some v => foldV v | none => 0
def valsK (raw : List Int) (n : Nat) : List Int := (List.range n).map (valK raw)
theorem foldV_bd (v : Int) : -1000000 ≤ foldV v ∧ foldV v ≤ 1000000 := by
  unfold foldV
  split
  · have : pickP v 2000001 < 2000001 := Nat.mod_lt _ (by omega)
    omega
  · omega
theorem valsK_len (raw : List Int) (n : Nat) : (valsK raw n).length = n := by simp [valsK]
theorem valsK_fits (its : List PItem) (raw : List Int) : fitsP its (valsK raw (inputsP its)) = true := by
  unfold fitsP
  rw [valsK_len]
  simp only [decide_true, Bool.true_and, Bool.not_eq_true', List.any_eq_false]
  intro x hx
  unfold valsK at hx
  rw [List.mem_map] at hx
  obtain ⟨i, _, rfl⟩ := hx
  unfold valK numBeyond
  cases raw[i]? with
  | none => simp
  | some v => have := foldV_bd v; simp; omega

/-- A list of numbers that came in. -/
def RawV (w : World) (v : Value) (raw : List Int) : Prop :=
  (raw = [] ∧ ∃ ao cap, v = .slice ao 0 cap) ∨ ∃ g off cap, v = .slice (some ⟨g, off, none⟩) raw.length cap ∧ raw.length ≤ cap ∧ cap ≤ maxLen ∧ g < w.heap.size ∧ ∀ j x, raw[j]? = some x → w.cell? ⟨g, off + j, none⟩ = some (.int .i64 x)
theorem RawV.form {w : World} {v : Value} {raw : List Int} (h : RawV w v raw) : ∃ ao cap, v = .slice ao raw.length cap := by
  rcases h with ⟨rfl, ao, cap, rfl⟩ | ⟨g, off, cap, rfl, _⟩
  · exact ⟨ao, cap, rfl⟩
  · exact ⟨_, _, rfl⟩
theorem RawV.len {w : World} {v : Value} {raw : List Int} (h : RawV w v raw) : raw.length ≤ maxLen := by
  rcases h with ⟨rfl, _⟩ | ⟨g, off, cap, _, h1, h2, _⟩
  · simp
  · omega
theorem RawV.below {w w' : World} {v : Value} {raw : List Int} (h : RawV w v raw) (b : Below w.heap.size w w') : RawV w' v raw := by
  rcases h with h | ⟨g, off, cap, h0, h1, h2, h3, h4⟩
  · exact Or.inl h
  · exact Or.inr ⟨g, off, cap, h0, h1, h2, Nat.lt_of_lt_of_le h3 b.size, fun j x hj => by rw [b.cell (p := ⟨g, off + j, none⟩) h3]; exact h4 j x hj⟩

set_option maxRecDepth 100000 in
set_option maxHeartbeats 1600000 in
theorem values_any (base b : Nat) (its : List PItem) (rv : Value) (raw : List Int) (w : World) (h : RunAt base w b its) (hraw : RawV w rv raw) (hrb : ∀ x ∈ raw, -9223372036854775808 ≤ x ∧ x ≤ 9223372036854775807) (hin : inputsP its ≤ 12) :
    Calls Tryz.prog 15 #[.pointer (some ⟨b, 0, none⟩), rv] w fun e w' => ∃ v, e = .returned v ∧ Below w.heap.size w w' ∧ w'.ownsRow w.heap.size 3 1 v (valsK raw (inputsP its)).length (ints (valsK raw (inputsP its))) := by
  obtain ⟨ro, rc, rfl⟩ := hraw.form
  obtain ⟨g, v, hN, _, _⟩ := h
  have HN := hide hN
  have HR := hide hraw
  have HRB := hide hrb
  have hrl := hraw.len
  unfold maxLen at hrl
  clear hN hraw hrb
  generalize inputsP its = n at *
  obtain ⟨i0, hi, hz0, hz1, hz2⟩ := info_parts Tryz.info_int
  go_enter Tryz.func15, Tryz.ntmps15
  go_wp2_with fail
  go_loopg [5, 6] n (fun g ov iv wr => ∃ j : Nat, j ≤ n ∧ g = n - j ∧ iv = .int .i64 (j : Int) ∧ Below w.heap.size w wr ∧ wr.ownsRow w.heap.size 3 1 ov j (ints (valsK raw j)))
  case atStart => exact ⟨0, by omega, rfl, rfl, Below.refl _ _, World.ownsRow_nil _ _ _ _⟩
  case round =>
    obtain ⟨j, hj, hg, rfl, hb, hown⟩ := hrel
    have A : Aside (gk = n - j ∧ Below w.heap.size w wr ∧ wr.ownsRow w.heap.size 3 1 u5 j (ints (valsK raw j))) := ⟨hg, hb, hown⟩
    have hnr := (hb.block _ (lt_of_block (unhide HN))).trans (unhide HN)
    obtain ⟨⟨c0, c1, c2⟩, _⟩ := box3 hnr
    have hsb := lt_of_block hnr
    have hsz := hb.size
    clear hg hown hnr c0 c1
    by_cases hlt : j < n
    · have hjc : (j : Int) < n := by omega
      have HST : Hid (ints (valsK raw (j + 1)) = ints (valsK raw j) ++ [.int .i64 (valK raw j)]) := hide (by unfold valsK ints; rw [List.range_succ, List.map_append, List.map_append]; rfl)
      by_cases hjr : j < raw.length
      · rcases (unhide HR) with ⟨h0, _⟩ | ⟨g2, off2, cap2, hv2, hc2, hm2, hgl2, hx2⟩
        · subst h0; simp at hjr
        simp only [Value.slice.injEq] at hv2
        obtain ⟨rfl, _, rfl⟩ := hv2
        have k0 : wr.cell? ⟨g2, off2 + j, none⟩ = some (.int .i64 raw[j]) := by
          rw [hb.cell (p := ⟨g2, off2 + j, none⟩) hgl2]
          exact hx2 j _ (List.getElem?_eq_getElem hjr)
        have hxb := unhide HRB raw[j] (List.getElem_mem hjr)
        have hjrc : (j : Int) < raw.length := by omega
        have HVK : Hid (valK raw j = foldV raw[j]) := hide (by unfold valK; rw [List.getElem?_eq_getElem hjr])
        generalize raw[j] = x at *
        clear hx2 hc2 hm2 hb
        by_cases h1 : x < -1000000
        · have HFV : Hid (foldV x = (pickP x 2000001 : Int) - 1000000) := hide (by unfold foldV; rw [if_pos (Or.inl h1)])
          have hpl : pickP x 2000001 < 2000001 := Nat.mod_lt _ (by omega)
          go_wp2_with fail
          refine (pick_any x 2000001 _ (by omega) (by omega) hxb.1 hxb.2).mono ?_
          rintro e w9 ⟨rfl, hw9⟩
          rw [hw9]
          clear hw9 w9
          generalize pickP x 2000001 = q at *
          go_wp2_with (at_builtin; refine wpList_append_lies _ (by rfl) _ _ _ (by rfl) w.heap.size 3 i0 _ 1 8 Tryz.underlying25 hi hz0 hz1 hz2 rfl (by decide) u5 j (ints (valsK raw j)) (by rfl) (A.out.2.2.alloc _) ⟨wr.heap.size, 0, none⟩ 1 1 [.int .i64 ((q : Int) - 1000000)] (by rfl) (by rfl) (World.news_of_block (cs := #[.int .i64 ((q : Int) - 1000000)]) (t := 3) (fr := (0, 0)) (heap_alloc_new wr _)) (by simp [Value.oneCell']) (by decide) (by unfold maxLen; omega) (by omega) (by simp; omega) (wr.heap.size + 1) (by simp) ?_; intro gg cap w7 hown7 hgrow7 hat7 hlt7; have AB := hide (And.intro (below_grown (A.out.2.1.alloc hsz _) hgrow7 (fun q hq => (A.out.2.2.lt q hq).1)) hown7); clear hown7 hgrow7 hat7 hlt7)
          go_roundg (n - (j + 1))
          case measure => have := A.out.1; omega
          case rel =>
            refine ⟨j + 1, by omega, rfl, by go_num, (unhide AB).1, ?_⟩
            rw [unhide HST, unhide HVK, unhide HFV]
            exact (unhide AB).2
        · by_cases h2 : 1000000 < x
          · have HFV : Hid (foldV x = (pickP x 2000001 : Int) - 1000000) := hide (by unfold foldV; rw [if_pos (Or.inr h2)])
            have hpl : pickP x 2000001 < 2000001 := Nat.mod_lt _ (by omega)
            go_wp2_with fail
            refine (pick_any x 2000001 _ (by omega) (by omega) hxb.1 hxb.2).mono ?_
            rintro e w9 ⟨rfl, hw9⟩
            rw [hw9]
            clear hw9 w9
            generalize pickP x 2000001 = q at *
            go_wp2_with (at_builtin; refine wpList_append_lies _ (by rfl) _ _ _ (by rfl) w.heap.size 3 i0 _ 1 8 Tryz.underlying25 hi hz0 hz1 hz2 rfl (by decide) u5 j (ints (valsK raw j)) (by rfl) (A.out.2.2.alloc _) ⟨wr.heap.size, 0, none⟩ 1 1 [.int .i64 ((q : Int) - 1000000)] (by rfl) (by rfl) (World.news_of_block (cs := #[.int .i64 ((q : Int) - 1000000)]) (t := 3) (fr := (0, 0)) (heap_alloc_new wr _)) (by simp [Value.oneCell']) (by decide) (by unfold maxLen; omega) (by omega) (by simp; omega) (wr.heap.size + 1) (by simp) ?_; intro gg cap w7 hown7 hgrow7 hat7 hlt7; have AB := hide (And.intro (below_grown (A.out.2.1.alloc hsz _) hgrow7 (fun q hq => (A.out.2.2.lt q hq).1)) hown7); clear hown7 hgrow7 hat7 hlt7)
            go_roundg (n - (j + 1))
            case measure => have := A.out.1; omega
            case rel =>
              refine ⟨j + 1, by omega, rfl, by go_num, (unhide AB).1, ?_⟩
              rw [unhide HST, unhide HVK, unhide HFV]
              exact (unhide AB).2
          · have HFV : Hid (foldV x = x) := hide (by unfold foldV; rw [if_neg (by omega)])
            go_wp2_with (at_builtin; refine wpList_append_lies _ (by rfl) _ _ _ (by rfl) w.heap.size 3 i0 _ 1 8 Tryz.underlying25 hi hz0 hz1 hz2 rfl (by decide) u5 j (ints (valsK raw j)) (by rfl) (A.out.2.2.alloc _) ⟨wr.heap.size, 0, none⟩ 1 1 [.int .i64 (x)] (by rfl) (by rfl) (World.news_of_block (cs := #[.int .i64 (x)]) (t := 3) (fr := (0, 0)) (heap_alloc_new wr _)) (by simp [Value.oneCell']) (by decide) (by unfold maxLen; omega) (by omega) (by simp; omega) (wr.heap.size + 1) (by simp) ?_; intro gg cap w7 hown7 hgrow7 hat7 hlt7; have AB := hide (And.intro (below_grown (A.out.2.1.alloc hsz _) hgrow7 (fun q hq => (A.out.2.2.lt q hq).1)) hown7); clear hown7 hgrow7 hat7 hlt7)
            go_roundg (n - (j + 1))
            case measure => have := A.out.1; omega
            case rel =>
              refine ⟨j + 1, by omega, rfl, by go_num, (unhide AB).1, ?_⟩
              rw [unhide HST, unhide HVK, unhide HFV]
              exact (unhide AB).2
      · have hjrc : ¬ (j : Int) < raw.length := by omega
        have HVK : Hid (valK raw j = 0) := hide (by unfold valK; rw [List.getElem?_eq_none (by omega)])
        clear hb
        go_wp2_with (at_builtin; refine wpList_append_lies _ (by rfl) _ _ _ (by rfl) w.heap.size 3 i0 _ 1 8 Tryz.underlying25 hi hz0 hz1 hz2 rfl (by decide) u5 j (ints (valsK raw j)) (by rfl) (A.out.2.2.alloc _) ⟨wr.heap.size, 0, none⟩ 1 1 [.int .i64 (0)] (by rfl) (by rfl) (World.news_of_block (cs := #[.int .i64 (0)]) (t := 3) (fr := (0, 0)) (heap_alloc_new wr _)) (by simp [Value.oneCell']) (by decide) (by unfold maxLen; omega) (by omega) (by simp; omega) (wr.heap.size + 1) (by simp) ?_; intro gg cap w7 hown7 hgrow7 hat7 hlt7; have AB := hide (And.intro (below_grown (A.out.2.1.alloc hsz _) hgrow7 (fun q hq => (A.out.2.2.lt q hq).1)) hown7); clear hown7 hgrow7 hat7 hlt7)
        go_roundg (n - (j + 1))
        case measure => have := A.out.1; omega
        case rel =>
          refine ⟨j + 1, by omega, rfl, by go_num, (unhide AB).1, ?_⟩
          rw [unhide HST, unhide HVK]
          exact (unhide AB).2
    · have hje : j = n := by omega
      have hjc : ¬ (j : Int) < n := by omega
      have HO : Hid (wr.ownsRow w.heap.size 3 1 u5 (valsK raw n).length (ints (valsK raw n))) := hide (by
        have := A.out.2.2
        rw [hje] at this
        rw [valsK_len]
        exact this)
      clear hje hb
      go_wp2
      go_ret
      have ho := unhide HO
      exact ⟨_, rfl, A.out.2.1, ho⟩
end Go.Proofs.YthnggjaecngbiaaGreatDoor

/-
  For the statements of the program: what their rows share. By the verifier, with the kit's own builders. No macro, syntax, notation, axiom, sorry.
-/
namespace Go.Proofs.YthnggjaecngbiaaGreatDoor
open Go.ChangeShapes Go.WideShapes Go.ChangeAt Go.RowKit

theorem rk_own : ownKnob Tryz.prog.godebug = none := by kernel_rfl
theorem rk_gTab : Tryz.prog.globalNamed "internal/strconv.uint64pow10" = some 1 := by kernel_rfl
theorem rk_gTabType : (Tryz.prog.globals[1]?).map (·.type) = some 250 := by kernel_rfl
theorem rk_cellsTab : Tryz.prog.cellsOf 250 = 20 := by kernel_rfl
theorem rk_cellsU64 : Tryz.prog.cellsOf 234 = 1 := by kernel_rfl
theorem rk_cellsInt : Tryz.prog.cellsOf 3 = 1 := by kernel_rfl
theorem rk_laidOut : laidOutB Tryz.prog = true := by kernel_rfl

theorem int_wf {n : Int} (h : (Lit.int .i64 n).wf = true) : -9223372036854775808 ≤ n ∧ n ≤ 9223372036854775807 := by
  simp [Lit.wf, IntKind.min, IntKind.max, IntKind.signed, IntKind.bits] at h
  omega

set_option maxRecDepth 100000 in
theorem open_raw {H : Type} {enc : TypeId × Value → H} {W : World} {base b0 : Nat} {r : Reach} {sp : Nat → Bool} {held : Bool} {v : Value} {d : DataW H} {ps : List MemPlace} (hval : Value.okWide Tryz.prog W r b0 25 v) (hd : DataW.Trod enc Tryz.prog W base sp held 25 v d ps) :
    ∃ raw, RawV W v raw ∧ ∀ x ∈ raw, -9223372036854775808 ≤ x ∧ x ≤ 9223372036854775807 := by
  obtain ⟨a, len, cap, rfl⟩ := okWide_slice Tryz.underlying25 hval
  obtain ⟨fuel, hf⟩ := hd
  have hc : (Value.slice a len cap).cells.toList = [.slice a len cap] := by simp [Value.cells]
  rw [hc] at hf
  rcases Go.ChangeShapes.open_ints Tryz.underlying25 Tryz.underlying3 rk_cellsInt hf with ⟨h0, _⟩ | ⟨a', len', cap', zs, hcs, hb, hl, hm, hzl, hx, hcell, hwf⟩
  · simp only [List.cons.injEq, Value.slice.injEq, and_true] at h0
    obtain ⟨rfl, rfl, rfl⟩ := h0
    exact ⟨[], Or.inl ⟨rfl, _, _, rfl⟩, by simp⟩
  · simp only [List.cons.injEq, Value.slice.injEq, and_true] at hcs
    obtain ⟨rfl, rfl, rfl⟩ := hcs
    have hlz : len ≤ zs.length := by rw [hzl]; split <;> omega
    have htl : (zs.take len).length = len := by simp; omega
    refine ⟨zs.take len, ?_, fun x hx => int_wf (hwf x (List.mem_of_mem_take hx))⟩
    by_cases hz : len = 0
    · subst hz
      exact Or.inl ⟨by simp, _, _, rfl⟩
    · have h00 := hcell 0 (by omega)
      obtain ⟨g, off, spot⟩ := a'
      have hspot : spot = none := by simpa [Addr.add] using World.cell?_spot h00
      subst hspot
      have hg : g < W.heap.size := by
        rcases Nat.lt_or_ge g W.heap.size with h | h
        · exact h
        · simp [World.cell?, Addr.add, Array.getElem?_eq_none h] at h00
      refine Or.inr ⟨g, off, cap, by rw [htl], by rw [htl]; exact hl, hm, hg, fun j x hj => ?_⟩
      have hjl : j < len := by have := (List.getElem?_eq_some_iff.1 hj).1; rw [htl] at this; exact this
      have h1 := hcell j (by omega)
      rw [Go.Lib.add_plain] at h1
      rw [h1]
      rw [List.getElem?_take_of_lt hjl] at hj
      rw [List.getD_eq_getElem?_getD, hj]
      rfl

/-- The tables' blocks, holding what their initialisers lay. -/
def rk_withTabs (w : World) : World :=
  { w with heap := ((w.heap.modify 1 fun
      | .cells _ t frozen => .cells #[.int .u64 1, .int .u64 10, .int .u64 100, .int .u64 1000, .int .u64 10000, .int .u64 100000, .int .u64 1000000, .int .u64 10000000, .int .u64 100000000, .int .u64 1000000000, .int .u64 10000000000, .int .u64 100000000000, .int .u64 1000000000000, .int .u64 10000000000000, .int .u64 100000000000000, .int .u64 1000000000000000, .int .u64 10000000000000000, .int .u64 100000000000000000, .int .u64 1000000000000000000, .int .u64 10000000000000000000] t frozen
      | o => o).modify 2 fun
      | .cells _ t frozen => .cells #[.int .u8 0, .int .u8 1, .int .u8 28, .int .u8 2, .int .u8 29, .int .u8 14, .int .u8 24, .int .u8 3, .int .u8 30, .int .u8 22, .int .u8 20, .int .u8 15, .int .u8 25, .int .u8 17, .int .u8 4, .int .u8 8, .int .u8 31, .int .u8 27, .int .u8 13, .int .u8 23, .int .u8 21, .int .u8 19, .int .u8 16, .int .u8 7, .int .u8 26, .int .u8 12, .int .u8 18, .int .u8 6, .int .u8 11, .int .u8 5, .int .u8 10, .int .u8 9] t frozen
      | o => o).modify 3 fun
      | .cells _ t frozen => .cells #[.int .u8 0, .int .u8 1, .int .u8 56, .int .u8 2, .int .u8 57, .int .u8 49, .int .u8 28, .int .u8 3, .int .u8 61, .int .u8 58, .int .u8 42, .int .u8 50, .int .u8 38, .int .u8 29, .int .u8 17, .int .u8 4, .int .u8 62, .int .u8 47, .int .u8 59, .int .u8 36, .int .u8 45, .int .u8 43, .int .u8 51, .int .u8 22, .int .u8 53, .int .u8 39, .int .u8 33, .int .u8 30, .int .u8 24, .int .u8 18, .int .u8 12, .int .u8 5, .int .u8 63, .int .u8 55, .int .u8 48, .int .u8 27, .int .u8 60, .int .u8 41, .int .u8 37, .int .u8 16, .int .u8 46, .int .u8 35, .int .u8 44, .int .u8 21, .int .u8 52, .int .u8 32, .int .u8 23, .int .u8 11, .int .u8 54, .int .u8 26, .int .u8 40, .int .u8 15, .int .u8 34, .int .u8 20, .int .u8 31, .int .u8 10, .int .u8 25, .int .u8 14, .int .u8 19, .int .u8 9, .int .u8 13, .int .u8 8, .int .u8 7, .int .u8 6] t frozen
      | o => o }
end Go.Proofs.YthnggjaecngbiaaGreatDoor

