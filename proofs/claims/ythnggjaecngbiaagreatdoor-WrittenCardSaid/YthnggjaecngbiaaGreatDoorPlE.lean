import Derived.Test.YthnggjaecngbiaaGreatDoorPlD
import Derived.Deep.DeepFit
import Derived.Defers
import Derived.Recover
namespace Go.Proofs.YthnggjaecngbiaaGreatDoor
open Go.RowKit

def itemOut (it : PItem) : List UInt8 := (if it.isT then tableOut it else inputOut it) ++ [10]
def planOut (its : List PItem) : List UInt8 := its.flatMap itemOut

theorem itemOut_len {it : PItem} (h : WfI it) : (itemOut it).length ≤ 1200000000 := by
  have h1 : it.name.data.toList.length ≤ 8 := by have := h.name; simpa using this
  have h2 := marksOut_len 47 it.marks
  have h3 := marksOut_len 92 it.drops
  have h4 := joinOut_len h.clen h.cols
  have h5 := rulesOut_len it.rules h.rules
  have h6 := h.rlen
  unfold itemOut
  split
  · unfold tableOut
    simp only [List.length_append, List.length_cons, List.length_nil]
    omega
  · unfold inputOut
    simp only [List.length_append, List.length_cons, List.length_nil]
    omega
theorem planOut_len (its : List PItem) (h : ∀ i ∈ its, WfI i) : (planOut its).length ≤ its.length * 1200000000 := by
  induction its with
  | nil => simp [planOut]
  | cons i its ih =>
    have h1 := itemOut_len (h i (by simp))
    have h2 := ih (fun x hx => h x (by simp [hx]))
    unfold planOut at h2 ⊢
    rw [List.flatMap_cons, List.length_append, List.length_cons]
    omega

set_option maxRecDepth 100000 in
set_option maxHeartbeats 1600000 in
theorem write_any (v : Value) (xs : List LItem) (w : World) (hv : ItemsV w v xs) (hwf : ∀ x ∈ xs, WfI x.it) (hl : xs.length ≤ 1000) (ht : Tab w) :
    Calls Tryz.prog 40 #[v] w fun e w' => e = .returned (.string ⟨(planOut (xs.map LItem.it)).toArray⟩) ∧ Below w.heap.size w w' := by
  obtain ⟨ao, cap, rfl⟩ := hv.1.form
  have HV := hide hv
  have HF := hide hwf
  have HT := hide ht
  have HW0 : Hid (WInv w w.heap.size [] (w.alloc (.cells #[.pointer none, .slice none 0 0] 116))) :=
    ⟨(Below.refl _ w).alloc (Nat.le_refl _) _, Or.inl ⟨Nat.le_refl _, .slice none 0 0, alloc_last w _, World.ownsRowF_nil _ _ _ _, by simp [Value.ownBlock]⟩⟩
  clear hv hwf ht
  go_enter Tryz.func40, Tryz.ntmps40
  go_wp2_with fail
  go_loopg [8] xs.length (fun g i wr => ∃ j : Nat, j ≤ xs.length ∧ g = xs.length - j ∧ i = .int .i64 (j : Int) ∧ WInv w w.heap.size (planOut ((xs.take j).map LItem.it)) wr)
  case atStart => exact ⟨0, by omega, rfl, rfl, by simpa [planOut] using unhide HW0⟩
  case round =>
    obtain ⟨j, hj, hg, rfl, hwi⟩ := hrel
    have A : Aside (gk = xs.length - j ∧ WInv w w.heap.size (planOut ((xs.take j).map LItem.it)) wr) := ⟨hg, hwi⟩
    clear hg HW0
    have hpl : (planOut ((xs.take j).map LItem.it)).length ≤ 1200000000000 := by
      have := planOut_len ((xs.take j).map LItem.it) (fun i hi => by
        rw [List.mem_map] at hi
        obtain ⟨x, hx, rfl⟩ := hi
        exact HF.out x (List.mem_of_mem_take hx))
      simp only [List.length_map, List.length_take] at this
      omega
    by_cases hlt : j < xs.length
    · rcases (unhide HV).1 with ⟨h0, _⟩ | ⟨g, cap', hv, hc, hm, hgl, hx⟩
      · omega
      simp only [Value.slice.injEq] at hv
      obtain ⟨rfl, _, rfl⟩ := hv
      have key : ∀ i, i < 7 → wr.cell? ⟨g, j * 7 + i, none⟩ = (itCells xs[j])[i]? := fun i hi => by
        rw [hwi.bl.cell (p := ⟨g, j * 7 + i, none⟩) hgl, hx _ (by omega)]
        exact flat_at itCells 7 (fun _ => rfl) xs j i hlt hi
      have k0 := key 0 (by omega)
      have k1 := key 1 (by omega)
      have k2 := key 2 (by omega)
      have k3 := key 3 (by omega)
      have k4 := key 4 (by omega)
      have k5 := key 5 (by omega)
      have k6 := key 6 (by omega)
      simp only [itCells, icells, List.getElem?_cons_zero, List.getElem?_cons_succ, Nat.add_zero] at k0 k1 k2 k3 k4 k5 k6
      have hxi := (unhide HV).2 xs[j] (List.getElem_mem hlt)
      have hfx := HF.out xs[j] (List.getElem_mem hlt)
      have htk : planOut ((xs.take (j + 1)).map LItem.it) = planOut ((xs.take j).map LItem.it) ++ itemOut xs[j].it := by
        rw [List.take_succ_eq_append_getElem hlt, List.map_append]
        simp [planOut]
      have hjc : (j : Int) < xs.length := by omega
      generalize xs[j] = x at *
      obtain ⟨co, cc, hcv⟩ := hxi.1.form
      obtain ⟨ro, rc, hrv⟩ := hxi.2.2.1.form
      obtain ⟨it, cv, rv0, vs⟩ := x
      simp only at k0 k1 k2 k3 k4 k5 k6 hcv hrv htk hfx
      subst hcv hrv
      have hb1 : Below wr.heap.size wr (wr.alloc (.cells (icells it (.slice co it.cols.length cc) (.slice ro it.rules.length rc)) 119)) := (Below.refl _ wr).alloc (Nat.le_refl _) _
      have HWa := hide (hwi.below hb1)
      simp only [icells] at HWa
      have HX := hide hxi
      have HK := hide htk
      obtain ⟨l0, hl0⟩ : ∃ l0, planOut ((xs.take j).map LItem.it) = l0 := ⟨_, rfl⟩
      rw [hl0] at hpl HWa HK
      clear key hx hc hm hgl hwi hb1 hxi htk hl0
      cases hT : it.isT with
      | true =>
        rw [hT] at k1 HWa
        have hio : itemOut it = tableOut it ++ [10] := by unfold itemOut; rw [hT]; rfl
        have HIO := hide hio
        have HTT := hide hT
        clear hio hT
        go_wp2_with fail
        have hcall := writeTable_any it co ro cc rc vs (unhide HWa) (by omega) hfx (unhide HX) (unhide HT)
        simp only [iv, icells] at hcall
        rw [unhide HTT] at hcall
        go_fit hcall
        clear hcall
        rintro e wb ⟨rfl, hwb, _⟩
        have HWb := hide hwb
        clear hwb HWa
        go_wp2_with fail
        refine (wb_any _ (unhide HWb) (by have := itemOut_len hfx; rw [unhide HIO] at this; simp only [List.length_append, List.length_cons, List.length_nil] at this ⊢; omega) (by simp) (by simp)).mono ?_
        rintro e wc ⟨rfl, hwc, _⟩
        have HWc := hide hwc
        clear hwc HWb
        go_wp2
        go_roundg (xs.length - (j + 1))
        case measure => have := A.out.1; omega
        case rel =>
          refine ⟨j + 1, by omega, rfl, by go_num, ?_⟩
          have h9 := unhide HWc
          rw [unhide HK, unhide HIO]
          simpa [u8] using h9
      | false =>
        rw [hT] at k1 HWa
        have hio : itemOut it = inputOut it ++ [10] := by unfold itemOut; rw [hT]; rfl
        have HIO := hide hio
        have HTT := hide hT
        clear hio hT
        go_wp2_with fail
        have hcall := writeInput_any it co ro it.cols.length cc it.rules.length rc (unhide HWa) (by omega) hfx
        simp only [iv, icells] at hcall
        rw [unhide HTT] at hcall
        go_fit hcall
        clear hcall
        rintro e wb ⟨rfl, hwb, _⟩
        have HWb := hide hwb
        clear hwb HWa
        go_wp2_with fail
        refine (wb_any _ (unhide HWb) (by have := itemOut_len hfx; rw [unhide HIO] at this; simp only [List.length_append, List.length_cons, List.length_nil] at this ⊢; omega) (by simp) (by simp)).mono ?_
        rintro e wc ⟨rfl, hwc, _⟩
        have HWc := hide hwc
        clear hwc HWb
        go_wp2
        go_roundg (xs.length - (j + 1))
        case measure => have := A.out.1; omega
        case rel =>
          refine ⟨j + 1, by omega, rfl, by go_num, ?_⟩
          have h9 := unhide HWc
          rw [unhide HK, unhide HIO]
          simpa [u8] using h9
    · have hje : j = xs.length := by omega
      have HJ := hide hje
      have hjc : ¬ (j : Int) < xs.length := by omega
      have hA := A.out.2
      rw [hje, List.take_length] at hA
      have HA := hide hA
      clear hje hwi hA
      go_wp2_with fail
      refine (Tryz.Builder_String_any_k w.heap.size w.heap.size _ _ (unhide HA).bd (unhide HA).bl.size).mono ?_
      rintro e w1 ⟨rfl, _, hb, _⟩
      have HB := hide ((unhide HA).bl.trans hb)
      clear hb
      go_wp2
      go_ret
      exact ⟨rfl, unhide HB⟩

end Go.Proofs.YthnggjaecngbiaaGreatDoor

namespace Go.Proofs.YthnggjaecngbiaaGreatDoor
open Go.RowKit

theorem assert_giveUp (v : Value) (w : World) : (Instr.typeAssert (.iface 110 v) 20 110 true).run Tryz.prog w = .ok (.tuple #[v, .bool true]) w := by
  simp [Instr.typeAssert, run_underlying Tryz.underlying110]

set_option maxRecDepth 100000 in
set_option maxHeartbeats 400000 in
theorem faultOf_any (p : Int) (w : World) :
    Calls Tryz.prog 38 #[.iface 110 (.agg #[.int .i64 p])] w fun e w' => e = .returned (.tuple #[.int .i64 p, .int .i64 1]) ∧ Below w.heap.size w w' := by
  have hta := fun w => assert_giveUp (.agg #[.int .i64 p]) w
  go_enter Tryz.func38, Tryz.ntmps38
  go_wp2
  go_ret2
  exact ⟨rfl, (Below.refl _ _).alloc (Nat.le_refl _) _⟩

/-- The three results' blocks of the face. -/
structure Door (N : Nat) (x0 : ByteArray) (x1 x2 : Int) (w : World) : Prop where
  b0 : w.heap[N]? = some (.cells #[.string x0] 9)
  b1 : w.heap[N + 1]? = some (.cells #[.int .i64 x1] 3)
  b2 : w.heap[N + 1 + 1]? = some (.cells #[.int .i64 x2] 27)
theorem Door.cells {N : Nat} {x0 : ByteArray} {x1 x2 : Int} {w : World} (h : Door N x0 x1 x2 w) :
    (w.cell? ⟨N, 0, none⟩ = some (.string x0) ∧ w.cell? ⟨N + 1, 0, none⟩ = some (.int .i64 x1) ∧ w.cell? ⟨N + 1 + 1, 0, none⟩ = some (.int .i64 x2)) ∧ w.frozen? ⟨N, 0, none⟩ = false ∧ w.frozen? ⟨N + 1, 0, none⟩ = false ∧ w.frozen? ⟨N + 1 + 1, 0, none⟩ = false := by
  have h0 := h.b0
  have h1 := h.b1
  have h2 := h.b2
  simp [World.cell?, World.frozen?, h0, h1, h2]
theorem Door.below {N : Nat} {x0 : ByteArray} {x1 x2 : Int} {w w' : World} (h : Door N x0 x1 x2 w) (g : Below w.heap.size w w') : Door N x0 x1 x2 w' :=
  ⟨by rw [g.block _ (lt_of_block h.b0)]; exact h.b0, by rw [g.block _ (lt_of_block h.b1)]; exact h.b1, by rw [g.block _ (lt_of_block h.b2)]; exact h.b2⟩
theorem Door.put {N : Nat} {x0 y0 : ByteArray} {x1 x2 y1 y2 : Int} {w : World} (h : Door N x0 x1 x2 w) : Door N y0 y1 y2 (((w.setCell ⟨N, 0, none⟩ (.string y0)).setCell ⟨N + 1, 0, none⟩ (.int .i64 y1)).setCell ⟨N + 1 + 1, 0, none⟩ (.int .i64 y2)) := by
  refine ⟨?_, ?_, ?_⟩
  · rw [Below.heap_setCell _ _ _ _ (by simp only; omega), Below.heap_setCell _ _ _ _ (by simp only; omega), heap_set_same h.b0]; rfl
  · rw [Below.heap_setCell _ _ _ _ (by simp only; omega), heap_set_same (by rw [Below.heap_setCell _ _ _ _ (by simp only; omega)]; exact h.b1)]; rfl
  · rw [heap_set_same (by rw [Below.heap_setCell _ _ _ _ (by simp only; omega), Below.heap_setCell _ _ _ _ (by simp only; omega)]; exact h.b2)]; rfl

theorem Door.set0 {N : Nat} {x0 y0 : ByteArray} {x1 x2 : Int} {w : World} (h : Door N x0 x1 x2 w) : Door N y0 x1 x2 (w.setCell ⟨N, 0, none⟩ (.string y0)) := by
  refine ⟨?_, ?_, ?_⟩
  · rw [heap_set_same h.b0]; rfl
  · rw [Below.heap_setCell _ _ _ _ (by simp only; omega)]; exact h.b1
  · rw [Below.heap_setCell _ _ _ _ (by simp only; omega)]; exact h.b2
theorem Door.put2 {N : Nat} {x0 : ByteArray} {x1 x2 y1 y2 : Int} {w : World} (h : Door N x0 x1 x2 w) : Door N x0 y1 y2 ((w.setCell ⟨N + 1, 0, none⟩ (.int .i64 y1)).setCell ⟨N + 1 + 1, 0, none⟩ (.int .i64 y2)) := by
  refine ⟨?_, ?_, ?_⟩
  · rw [Below.heap_setCell _ _ _ _ (by simp only; omega), Below.heap_setCell _ _ _ _ (by simp only; omega)]; exact h.b0
  · rw [Below.heap_setCell _ _ _ _ (by simp only; omega), heap_set_same h.b1]; rfl
  · rw [heap_set_same (by rw [Below.heap_setCell _ _ _ _ (by simp only; omega)]; exact h.b2)]; rfl
theorem ItemsAt.all {w w' : World} {base : Nat} {v : Value} {xs : List LItem} (h : ItemsAt base w v xs) (k : ∀ g, base ≤ g → g < w.heap.size → w'.heap[g]? = w.heap[g]?) : ItemsAt base w' v xs :=
  ⟨owns_keep h.1 (fun g _ hb hg => k g hb (lt_of_block hg)), fun x hx => (h.2 x hx).keep (fun g _ _ _ hb hg => k g hb (lt_of_block hg))⟩

set_option maxRecDepth 100000 in
set_option maxHeartbeats 400000 in
theorem catch_panicking (B N : Nat) (x0 : ByteArray) (x1 x2 : Int) (p : Int) (older : List PanicEntry) (w : World) (hd : Door N x0 x1 x2 w) (hB : B ≤ N) :
    CallsD Tryz.prog 37 #[.pointer (some ⟨N, 0, none⟩), .pointer (some ⟨N + 1, 0, none⟩), .pointer (some ⟨N + 1 + 1, 0, none⟩)] (.panicking ({ v := .iface 110 (.agg #[.int .i64 p]), recovered := false } :: older)) w fun e u' w' =>
      e = .returned (.tuple #[]) ∧ u' = .panicking ({ v := .iface 110 (.agg #[.int .i64 p]), recovered := true } :: older) ∧ Door N ⟨#[]⟩ p 1 w' ∧ Below B w w' := by
  have hlt := lt_of_block hd.b2
  obtain ⟨⟨c0, c1, c2⟩, f0, f1, f2⟩ := hd.cells
  have HD := hide (hd.set0 (y0 := ⟨#[]⟩))
  clear hd c1 c2 f1 f2
  refine callsD_of_wpS Tryz.func37 rfl fun c₀ cs hu => ?_
  apply wpS_seq
  apply wpS_region
  simp [wpOpsS, go_sem, recoverD, hu, Tryz.ntmps37, Exit.thenS]
  rw [show (#[Value.pointer (some ⟨N, 0, none⟩), Value.pointer (some ⟨N + 1, 0, none⟩), Value.pointer (some ⟨N + 1 + 1, 0, none⟩)] ++ ((Array.replicate 9 undef).setIfInBounds 1 (Value.iface 110 (Value.agg #[Value.int IntKind.i64 p]))).setIfInBounds 0 (Value.iface 110 (Value.agg #[Value.int IntKind.i64 p]))) = #[Value.pointer (some ⟨N, 0, none⟩), Value.pointer (some ⟨N + 1, 0, none⟩), Value.pointer (some ⟨N + 1 + 1, 0, none⟩), Value.iface 110 (Value.agg #[Value.int IntKind.i64 p]), Value.iface 110 (Value.agg #[Value.int IntKind.i64 p]), undef, undef, undef, undef, undef, undef, undef] from rfl]
  refine wpS_of_wp ?_
  go_wp2_with fail
  refine (faultOf_any _ _).mono ?_
  rintro e w1 ⟨rfl, hb⟩
  have HD1 := hide ((unhide HD).below hb)
  have HB := hide hb
  have hs : w.heap.size ≤ w1.heap.size := by have := hb.size; simpa using this
  obtain ⟨⟨c0, c1, c2⟩, f0, f1, f2⟩ := ((unhide HD).below hb).cells
  clear hb
  go_wp2
  refine ⟨rfl, _, rfl, .tuple #[], by simp [results, Tryz.results37], rfl, rfl, (unhide HD1).put2, ?_⟩
  have hb0 : Below B w (w.setCell ⟨N, 0, none⟩ (.string ⟨#[]⟩)) := (Below.refl _ _).setCell (p := ⟨N, 0, none⟩) hB _
  exact ((hb0.trans ((unhide HB).mono (by simp; omega))).setCell (p := ⟨N + 1, 0, none⟩) (by simp only; omega) _).setCell (p := ⟨N + 1 + 1, 0, none⟩) (by simp only; omega) _

set_option maxRecDepth 100000 in
set_option maxHeartbeats 400000 in
theorem catch_idle (N : Nat) (w : World) :
    CallsD Tryz.prog 37 #[.pointer (some ⟨N, 0, none⟩), .pointer (some ⟨N + 1, 0, none⟩), .pointer (some ⟨N + 1 + 1, 0, none⟩)] .returning w fun e u' w' => e = .returned (.tuple #[]) ∧ u' = .returning ∧ w' = w := by
  refine callsD_of_wpS Tryz.func37 rfl fun c₀ cs hu => ?_
  apply wpS_seq
  apply wpS_region
  simp [wpOpsS, go_sem, recoverD, hu, Tryz.ntmps37, Exit.thenS]
  rw [show (#[Value.pointer (some ⟨N, 0, none⟩), Value.pointer (some ⟨N + 1, 0, none⟩), Value.pointer (some ⟨N + 1 + 1, 0, none⟩)] ++ ((Array.replicate 9 undef).setIfInBounds 1 Value.nilIface).setIfInBounds 0 Value.nilIface) = #[Value.pointer (some ⟨N, 0, none⟩), Value.pointer (some ⟨N + 1, 0, none⟩), Value.pointer (some ⟨N + 1 + 1, 0, none⟩), Value.nilIface, Value.nilIface, undef, undef, undef, undef, undef, undef, undef] from rfl]
  refine wpS_of_wp ?_
  have HU := hide hu
  clear hu
  go_wp2
  refine ⟨rfl, .returning, ?_, .tuple #[], by simp [results, Tryz.results37], rfl, rfl, rfl⟩
  have := unhide HU
  cases c₀
  simp_all

/-- What Plain answers. -/
def plainR (s : ByteArray) : List UInt8 × Nat × Int :=
  if 1000 < s.size then ([], 0, 2)
  else match planR s with
    | .inl p => ([], p, 1)
    | .inr its => if (checkR its).2 = 0 then (planOut its, its.length, 0) else ([], (checkR its).1, (checkR its).2)

theorem small_of_wf {it : PItem} (h : WfI it) : SmallI it :=
  ⟨by have := h.clen; omega, by have := h.rlen; omega, fun r hr => by have := (h.rules r hr).len; omega⟩

/-- The items of a text, or what is wrong, and where. -/
def planOf (s : ByteArray) : Sum (Nat × Int) (List PItem) :=
  if 1000 < s.size then .inl (0, 2)
  else match planR s with
    | .inl p => .inl (p, 1)
    | .inr its => if (checkR its).2 = 0 then .inr its else .inl ((checkR its).1, (checkR its).2)
theorem plainR_of (s : ByteArray) : plainR s = match planOf s with | .inl (n, e) => ([], n, e) | .inr its => (planOut its, its.length, 0) := by
  unfold plainR planOf
  by_cases h : 1000 < s.size
  · rw [if_pos h, if_pos h]
  · rw [if_neg h, if_neg h]
    cases planR s with
    | inl p => rfl
    | inr its =>
      simp only
      by_cases h2 : (checkR its).2 = 0
      · rw [if_pos h2, if_pos h2]
      · rw [if_neg h2, if_neg h2]

/-- What the reading of a text leaves. -/
def ItemsOf (s : ByteArray) (w : World) (e : Ending) (w' : World) : Prop :=
  (∃ p : Nat, planOf s = .inl (p, 1) ∧ e = .panicked [{ v := .iface 110 (.agg #[.int .i64 (p : Int)]), recovered := false }] ∧ Below w.heap.size w w') ∨
  (∃ (cn : Nat) (ce : Int) (ao : Option Addr) (n cap : Nat), planOf s = .inl (cn, ce) ∧ ce ≠ 0 ∧ e = .returned (.tuple #[.slice ao n cap, .int .i64 (cn : Int), .int .i64 ce]) ∧ Below w.heap.size w w') ∨
  (∃ (its : List PItem) (cn : Nat) (ao : Option Addr) (n cap : Nat) (xs : List LItem), planOf s = .inr its ∧ e = .returned (.tuple #[.slice ao n cap, .int .i64 (cn : Int), .int .i64 0]) ∧ Below w.heap.size w w' ∧ xs.map LItem.it = its ∧ ItemsAt (w.heap.size + 1) w' (.slice ao n cap) xs ∧ (∀ x ∈ xs, WfI x.it) ∧ xs.length ≤ 1000 ∧ n = xs.length)

set_option maxRecDepth 100000 in
set_option maxHeartbeats 1600000 in
theorem itemsOf_any (s : ByteArray) (w : World) (hm : s.size ≤ maxLen) : Calls Tryz.prog 39 #[.string s] w (ItemsOf s w) := by
  unfold maxLen at hm
  by_cases h1 : 1000 < s.size
  · have HF : Hid (planOf s = .inl (0, 2)) := hide (by unfold planOf; rw [if_pos h1])
    have h1b : (1000 : Int) < s.size := by omega
    clear h1
    go_enter Tryz.func39, Tryz.ntmps39
    go_wp2_with fail
    go_ret3
    exact Or.inr (Or.inl ⟨0, 2, none, 0, 0, unhide HF, by decide, rfl, Below.refl _ _⟩)
  · have h1b : ¬ (1000 : Int) < s.size := by omega
    have hs : s.size ≤ 1000 := by omega
    have HP : Hid (planOf s = match planR s with | .inl p => .inl (p, 1) | .inr its => if (checkR its).2 = 0 then .inr its else .inl ((checkR its).1, (checkR its).2)) := hide (by unfold planOf; rw [if_neg h1])
    clear h1
    go_enter Tryz.func39, Tryz.ntmps39
    go_wp2_with fail
    refine (items_any s _ hs).mono ?_
    rintro e w1 (⟨p, hp, rfl, hb1⟩ | ⟨its, hp, v, xs, hxs, rfl, hb1, hit⟩)
    · have HF : Hid (planOf s = .inl (p, 1)) := hide (by rw [unhide HP, hp])
      have HB1 := hide hb1
      clear hp hb1
      go_wp2_with fail
      exact ⟨rfl, Or.inl ⟨p, unhide HF, rfl, unhide HB1⟩⟩
    · have hwf := planR_wf hs hp
      have hx1 : xs.length ≤ 1000 := by have := hwf.1; rw [← hxs] at this; simpa using this
      obtain ⟨ao, cap, rfl⟩ := (ItemsV.of_at hit).1.form
      have HX := hide hxs
      have HW : Hid (∀ x ∈ xs, WfI x.it) := hide (fun x hx => hwf.2 x.it (by rw [← hxs]; exact List.mem_map_of_mem hx))
      have HG : Hid (planOf s = if (checkR its).2 = 0 then .inr its else .inl ((checkR its).1, (checkR its).2)) := hide (by rw [unhide HP, hp])
      have HB1 := hide hb1
      have HV := hide hit
      clear hp hb1 hit hwf hxs HP
      go_wp2_with fail
      refine (check_any _ xs _ (ItemsV.of_at (unhide HV)) (fun x hx => small_of_wf (HW.out x hx)) (by omega)).mono ?_
      rintro e w2 ⟨rfl, hb2⟩
      rw [unhide HX]
      have HB2 := hide (below_after (unhide HB1) hb2)
      have HV2 := hide ((unhide HV).all (w' := w2) (fun g _ hg => hb2.block g hg))
      clear hb2 HB1 HV
      obtain ⟨cn, ce, hce⟩ : ∃ cn ce, checkR its = (cn, ce) := ⟨_, _, rfl⟩
      have HC := hide hce
      rw [hce]
      clear hce
      go_wp2_with fail
      go_ret3
      by_cases hz : ce = 0
      · subst hz
        exact Or.inr (Or.inr ⟨its, cn, ao, xs.length, cap, xs, by rw [unhide HG, unhide HC]; rfl, rfl, unhide HB2, unhide HX, unhide HV2, unhide HW, hx1, rfl⟩)
      · exact Or.inr (Or.inl ⟨cn, ce, ao, xs.length, cap, by rw [unhide HG, unhide HC]; simp only; rw [if_neg hz], hz, rfl, unhide HB2⟩)

end Go.Proofs.YthnggjaecngbiaaGreatDoor

