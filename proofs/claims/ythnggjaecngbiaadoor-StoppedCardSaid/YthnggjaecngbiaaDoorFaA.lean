import Derived.Test.YthnggjaecngbiaaDoorPlE
import Derived.Defers
import Derived.Recover
namespace Go.Proofs.YthnggjaecngbiaaDoor
open Go.RowKit

theorem assert_giveUp (v : Value) (w : World) : (Instr.typeAssert (.iface 36 v) 20 36 true).run Tryd.prog w = .ok (.tuple #[v, .bool true]) w := by
  simp [Instr.typeAssert, run_underlying Tryd.underlying36]

set_option maxRecDepth 100000 in
set_option maxHeartbeats 400000 in
theorem faultOf_any (p : Int) (w : World) :
    Calls Tryd.prog 9 #[.iface 36 (.agg #[.int .i64 p])] w fun e w' => e = .returned (.tuple #[.int .i64 p, .int .i64 1]) ∧ Below w.heap.size w w' := by
  have hta := fun w => assert_giveUp (.agg #[.int .i64 p]) w
  go_enter Tryd.func9, Tryd.ntmps9
  go_wp2
  go_ret2
  exact ⟨rfl, (Below.refl _ _).alloc (Nat.le_refl _) _⟩

/-- The three results' blocks of the face. -/
structure Door (N : Nat) (x0 : ByteArray) (x1 x2 : Int) (w : World) : Prop where
  b0 : w.heap[N]? = some (.cells #[.string x0] 9)
  b1 : w.heap[N + 1]? = some (.cells #[.int .i64 x1] 3)
  b2 : w.heap[N + 1 + 1]? = some (.cells #[.int .i64 x2] 23)
theorem Door.cells {N : Nat} {x0 : ByteArray} {x1 x2 : Int} {w : World} (h : Door N x0 x1 x2 w) :
    (w.cell? ⟨N, 0, none⟩ = some (.string x0) ∧ w.cell? ⟨N + 1, 0, none⟩ = some (.int .i64 x1) ∧ w.cell? ⟨N + 1 + 1, 0, none⟩ = some (.int .i64 x2)) ∧ w.frozen? ⟨N, 0, none⟩ = false ∧ w.frozen? ⟨N + 1, 0, none⟩ = false ∧ w.frozen? ⟨N + 1 + 1, 0, none⟩ = false := by
  have h0 := h.b0
  have h1 := h.b1
  have h2 := h.b2
  simp [World.cell?, World.frozen?, h0, h1, h2]
theorem Door.below {N : Nat} {x0 : ByteArray} {x1 x2 : Int} {w w' : World} (h : Door N x0 x1 x2 w) (g : Below w.heap.size w w') : Door N x0 x1 x2 w' :=
  ⟨by rw [g.block _ (lt_of_block h.b0)]; exact h.b0, by rw [g.block _ (lt_of_block h.b1)]; exact h.b1, by rw [g.block _ (lt_of_block h.b2)]; exact h.b2⟩
theorem Door.put {N : Nat} {x0 y0 : ByteArray} {x1 x2 y1 y2 : Int} {w : World} (h : Door N x0 x1 x2 w) : Door N y0 y1 y2 (((w.setCell ⟨N, 0, none⟩ (.string y0)).setCell ⟨N + 1, 0, none⟩ (.int .i64 y1)).setCell ⟨N + 1 + 1, 0, none⟩ (.int .i64 y2)) := by
  refine ⟨?_, ?_, ?_⟩
  · rw [Below.heap_setCell _ _ _ _ (by simp only; omega), Below.heap_setCell _ _ _ _ (by simp only; omega), heap_set_same h.b0]; rfl
  · rw [Below.heap_setCell _ _ _ _ (by simp only; omega), heap_set_same (by rw [Below.heap_setCell _ _ _ _ (by simp only; omega)]; exact h.b1)]; rfl
  · rw [heap_set_same (by rw [Below.heap_setCell _ _ _ _ (by simp only; omega), Below.heap_setCell _ _ _ _ (by simp only; omega)]; exact h.b2)]; rfl

theorem Door.set0 {N : Nat} {x0 y0 : ByteArray} {x1 x2 : Int} {w : World} (h : Door N x0 x1 x2 w) : Door N y0 x1 x2 (w.setCell ⟨N, 0, none⟩ (.string y0)) := by
  refine ⟨?_, ?_, ?_⟩
  · rw [heap_set_same h.b0]; rfl
  · rw [Below.heap_setCell _ _ _ _ (by simp only; omega)]; exact h.b1
  · rw [Below.heap_setCell _ _ _ _ (by simp only; omega)]; exact h.b2
theorem Door.put2 {N : Nat} {x0 : ByteArray} {x1 x2 y1 y2 : Int} {w : World} (h : Door N x0 x1 x2 w) : Door N x0 y1 y2 ((w.setCell ⟨N + 1, 0, none⟩ (.int .i64 y1)).setCell ⟨N + 1 + 1, 0, none⟩ (.int .i64 y2)) := by
  refine ⟨?_, ?_, ?_⟩
  · rw [Below.heap_setCell _ _ _ _ (by simp only; omega), Below.heap_setCell _ _ _ _ (by simp only; omega)]; exact h.b0
  · rw [Below.heap_setCell _ _ _ _ (by simp only; omega), heap_set_same h.b1]; rfl
  · rw [heap_set_same (by rw [Below.heap_setCell _ _ _ _ (by simp only; omega)]; exact h.b2)]; rfl
theorem ItemsAt.all {w w' : World} {base : Nat} {v : Value} {xs : List LItem} (h : ItemsAt base w v xs) (k : ∀ g, base ≤ g → g < w.heap.size → w'.heap[g]? = w.heap[g]?) : ItemsAt base w' v xs :=
  ⟨owns_keep h.1 (fun g _ hb hg => k g hb (lt_of_block hg)), fun x hx => (h.2 x hx).keep (fun g _ _ _ hb hg => k g hb (lt_of_block hg))⟩

set_option maxRecDepth 100000 in
set_option maxHeartbeats 400000 in
theorem catch_panicking (B N : Nat) (x0 : ByteArray) (x1 x2 : Int) (p : Int) (older : List PanicEntry) (w : World) (hd : Door N x0 x1 x2 w) (hB : B ≤ N) :
    CallsD Tryd.prog 8 #[.pointer (some ⟨N, 0, none⟩), .pointer (some ⟨N + 1, 0, none⟩), .pointer (some ⟨N + 1 + 1, 0, none⟩)] (.panicking ({ v := .iface 36 (.agg #[.int .i64 p]), recovered := false } :: older)) w fun e u' w' =>
      e = .returned (.tuple #[]) ∧ u' = .panicking ({ v := .iface 36 (.agg #[.int .i64 p]), recovered := true } :: older) ∧ Door N ⟨#[]⟩ p 1 w' ∧ Below B w w' := by
  have hlt := lt_of_block hd.b2
  obtain ⟨⟨c0, c1, c2⟩, f0, f1, f2⟩ := hd.cells
  have HD := hide (hd.set0 (y0 := ⟨#[]⟩))
  clear hd c1 c2 f1 f2
  refine callsD_of_wpS Tryd.func8 rfl fun c₀ cs hu => ?_
  apply wpS_seq
  apply wpS_region
  simp [wpOpsS, go_sem, recoverD, hu, Tryd.ntmps8, Exit.thenS]
  rw [show (#[Value.pointer (some ⟨N, 0, none⟩), Value.pointer (some ⟨N + 1, 0, none⟩), Value.pointer (some ⟨N + 1 + 1, 0, none⟩)] ++ ((Array.replicate 9 undef).setIfInBounds 1 (Value.iface 36 (Value.agg #[Value.int IntKind.i64 p]))).setIfInBounds 0 (Value.iface 36 (Value.agg #[Value.int IntKind.i64 p]))) = #[Value.pointer (some ⟨N, 0, none⟩), Value.pointer (some ⟨N + 1, 0, none⟩), Value.pointer (some ⟨N + 1 + 1, 0, none⟩), Value.iface 36 (Value.agg #[Value.int IntKind.i64 p]), Value.iface 36 (Value.agg #[Value.int IntKind.i64 p]), undef, undef, undef, undef, undef, undef, undef] from rfl]
  refine wpS_of_wp ?_
  go_wp2_with fail
  refine (faultOf_any _ _).mono ?_
  rintro e w1 ⟨rfl, hb⟩
  have HD1 := hide ((unhide HD).below hb)
  have HB := hide hb
  have hs : w.heap.size ≤ w1.heap.size := by have := hb.size; simpa using this
  obtain ⟨⟨c0, c1, c2⟩, f0, f1, f2⟩ := ((unhide HD).below hb).cells
  clear hb
  go_wp2
  refine ⟨rfl, _, rfl, .tuple #[], by simp [results, Tryd.results8], rfl, rfl, (unhide HD1).put2, ?_⟩
  have hb0 : Below B w (w.setCell ⟨N, 0, none⟩ (.string ⟨#[]⟩)) := (Below.refl _ _).setCell (p := ⟨N, 0, none⟩) hB _
  exact ((hb0.trans ((unhide HB).mono (by simp; omega))).setCell (p := ⟨N + 1, 0, none⟩) (by simp only; omega) _).setCell (p := ⟨N + 1 + 1, 0, none⟩) (by simp only; omega) _

set_option maxRecDepth 100000 in
set_option maxHeartbeats 400000 in
theorem catch_idle (N : Nat) (w : World) :
    CallsD Tryd.prog 8 #[.pointer (some ⟨N, 0, none⟩), .pointer (some ⟨N + 1, 0, none⟩), .pointer (some ⟨N + 1 + 1, 0, none⟩)] .returning w fun e u' w' => e = .returned (.tuple #[]) ∧ u' = .returning ∧ w' = w := by
  refine callsD_of_wpS Tryd.func8 rfl fun c₀ cs hu => ?_
  apply wpS_seq
  apply wpS_region
  simp [wpOpsS, go_sem, recoverD, hu, Tryd.ntmps8, Exit.thenS]
  rw [show (#[Value.pointer (some ⟨N, 0, none⟩), Value.pointer (some ⟨N + 1, 0, none⟩), Value.pointer (some ⟨N + 1 + 1, 0, none⟩)] ++ ((Array.replicate 9 undef).setIfInBounds 1 Value.nilIface).setIfInBounds 0 Value.nilIface) = #[Value.pointer (some ⟨N, 0, none⟩), Value.pointer (some ⟨N + 1, 0, none⟩), Value.pointer (some ⟨N + 1 + 1, 0, none⟩), Value.nilIface, Value.nilIface, undef, undef, undef, undef, undef, undef, undef] from rfl]
  refine wpS_of_wp ?_
  have HU := hide hu
  clear hu
  go_wp2
  refine ⟨rfl, .returning, ?_, .tuple #[], by simp [results, Tryd.results8], rfl, rfl, rfl⟩
  have := unhide HU
  cases c₀
  simp_all

/-- What Plain answers. -/
def plainR (s : ByteArray) : List UInt8 × Nat × Int :=
  if 1000 < s.size then ([], 0, 2)
  else match planR s with
    | .inl p => ([], p, 1)
    | .inr its => if (checkR its).2 = 0 then (planOut its, its.length, 0) else ([], (checkR its).1, (checkR its).2)

theorem small_of_wf {it : PItem} (h : WfI it) : SmallI it :=
  ⟨by have := h.clen; omega, by have := h.rlen; omega, fun r hr => by have := (h.rules r hr).len; omega⟩

/-- The items of a text, or what is wrong, and where. -/
def planOf (s : ByteArray) : Sum (Nat × Int) (List PItem) :=
  if 1000 < s.size then .inl (0, 2)
  else match planR s with
    | .inl p => .inl (p, 1)
    | .inr its => if (checkR its).2 = 0 then .inr its else .inl ((checkR its).1, (checkR its).2)
theorem plainR_of (s : ByteArray) : plainR s = match planOf s with | .inl (n, e) => ([], n, e) | .inr its => (planOut its, its.length, 0) := by
  unfold plainR planOf
  by_cases h : 1000 < s.size
  · rw [if_pos h, if_pos h]
  · rw [if_neg h, if_neg h]
    cases planR s with
    | inl p => rfl
    | inr its =>
      simp only
      by_cases h2 : (checkR its).2 = 0
      · rw [if_pos h2, if_pos h2]
      · rw [if_neg h2, if_neg h2]

/-- What the reading of a text leaves. -/
def ItemsOf (s : ByteArray) (w : World) (e : Ending) (w' : World) : Prop :=
  (∃ p : Nat, planOf s = .inl (p, 1) ∧ e = .panicked [{ v := .iface 36 (.agg #[.int .i64 (p : Int)]), recovered := false }] ∧ Below w.heap.size w w') ∨
  (∃ (cn : Nat) (ce : Int) (ao : Option Addr) (n cap : Nat), planOf s = .inl (cn, ce) ∧ ce ≠ 0 ∧ e = .returned (.tuple #[.slice ao n cap, .int .i64 (cn : Int), .int .i64 ce]) ∧ Below w.heap.size w w') ∨
  (∃ (its : List PItem) (cn : Nat) (ao : Option Addr) (n cap : Nat) (xs : List LItem), planOf s = .inr its ∧ e = .returned (.tuple #[.slice ao n cap, .int .i64 (cn : Int), .int .i64 0]) ∧ Below w.heap.size w w' ∧ xs.map LItem.it = its ∧ ItemsAt (w.heap.size + 1) w' (.slice ao n cap) xs ∧ (∀ x ∈ xs, WfI x.it) ∧ xs.length ≤ 1000 ∧ n = xs.length)

set_option maxRecDepth 100000 in
set_option maxHeartbeats 1600000 in
theorem itemsOf_any (s : ByteArray) (w : World) (hm : s.size ≤ maxLen) : Calls Tryd.prog 10 #[.string s] w (ItemsOf s w) := by
  unfold maxLen at hm
  by_cases h1 : 1000 < s.size
  · have HF : Hid (planOf s = .inl (0, 2)) := hide (by unfold planOf; rw [if_pos h1])
    have h1b : (1000 : Int) < s.size := by omega
    clear h1
    go_enter Tryd.func10, Tryd.ntmps10
    go_wp2_with fail
    go_ret3
    exact Or.inr (Or.inl ⟨0, 2, none, 0, 0, unhide HF, by decide, rfl, Below.refl _ _⟩)
  · have h1b : ¬ (1000 : Int) < s.size := by omega
    have hs : s.size ≤ 1000 := by omega
    have HP : Hid (planOf s = match planR s with | .inl p => .inl (p, 1) | .inr its => if (checkR its).2 = 0 then .inr its else .inl ((checkR its).1, (checkR its).2)) := hide (by unfold planOf; rw [if_neg h1])
    clear h1
    go_enter Tryd.func10, Tryd.ntmps10
    go_wp2_with fail
    refine (items_any s _ hs).mono ?_
    rintro e w1 (⟨p, hp, rfl, hb1⟩ | ⟨its, hp, v, xs, hxs, rfl, hb1, hit⟩)
    · have HF : Hid (planOf s = .inl (p, 1)) := hide (by rw [unhide HP, hp])
      have HB1 := hide hb1
      clear hp hb1
      go_wp2_with fail
      exact ⟨rfl, Or.inl ⟨p, unhide HF, rfl, unhide HB1⟩⟩
    · have hwf := planR_wf hs hp
      have hx1 : xs.length ≤ 1000 := by have := hwf.1; rw [← hxs] at this; simpa using this
      obtain ⟨ao, cap, rfl⟩ := (ItemsV.of_at hit).1.form
      have HX := hide hxs
      have HW : Hid (∀ x ∈ xs, WfI x.it) := hide (fun x hx => hwf.2 x.it (by rw [← hxs]; exact List.mem_map_of_mem hx))
      have HG : Hid (planOf s = if (checkR its).2 = 0 then .inr its else .inl ((checkR its).1, (checkR its).2)) := hide (by rw [unhide HP, hp])
      have HB1 := hide hb1
      have HV := hide hit
      clear hp hb1 hit hwf hxs HP
      go_wp2_with fail
      refine (check_any _ xs _ (ItemsV.of_at (unhide HV)) (fun x hx => small_of_wf (HW.out x hx)) (by omega)).mono ?_
      rintro e w2 ⟨rfl, hb2⟩
      rw [unhide HX]
      have HB2 := hide (below_after (unhide HB1) hb2)
      have HV2 := hide ((unhide HV).all (w' := w2) (fun g _ hg => hb2.block g hg))
      clear hb2 HB1 HV
      obtain ⟨cn, ce, hce⟩ : ∃ cn ce, checkR its = (cn, ce) := ⟨_, _, rfl⟩
      have HC := hide hce
      rw [hce]
      clear hce
      go_wp2_with fail
      go_ret3
      by_cases hz : ce = 0
      · subst hz
        exact Or.inr (Or.inr ⟨its, cn, ao, xs.length, cap, xs, by rw [unhide HG, unhide HC]; rfl, rfl, unhide HB2, unhide HX, unhide HV2, unhide HW, hx1, rfl⟩)
      · exact Or.inr (Or.inl ⟨cn, ce, ao, xs.length, cap, by rw [unhide HG, unhide HC]; simp only; rw [if_neg hz], hz, rfl, unhide HB2⟩)

end Go.Proofs.YthnggjaecngbiaaDoor
