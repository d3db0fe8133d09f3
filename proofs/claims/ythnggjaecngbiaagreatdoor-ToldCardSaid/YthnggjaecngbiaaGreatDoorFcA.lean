import Derived.Test.YthnggjaecngbiaaGreatDoorFaB
import Derived.Test.YthnggjaecngbiaaGreatDoorMdB
namespace Go.Proofs.YthnggjaecngbiaaGreatDoor
open Go.RowKit

/-- A plan in memory. -/
def PlanAt (w : World) (g : Nat) (its : List PItem) : Prop :=
  ∃ v xs, w.heap[g]? = some (.cells #[v] 98) ∧ ItemsV w v xs ∧ xs.map LItem.it = its ∧ (∀ x ∈ xs, WfI x.it) ∧ OkPlan its
theorem PlanAt.below {w w' : World} {g : Nat} {its : List PItem} (h : PlanAt w g its) (b : Below w.heap.size w w') : PlanAt w' g its := by
  obtain ⟨v, xs, h1, h2, h3⟩ := h
  exact ⟨v, xs, (b.block g (lt_of_block h1)).trans h1, h2.below b, h3⟩

/-- A plan in memory, its rows by their kinds. -/
def POwn (w : World) (g : Nat) (its : List PItem) : Prop :=
  ∃ v xs base, w.heap[g]? = some (.cells #[v] 98) ∧ ItemsAt base w v xs ∧ xs.map LItem.it = its ∧ (∀ x ∈ xs, WfI x.it) ∧ OkPlan its
theorem POwn.plan {w : World} {g : Nat} {its : List PItem} (h : POwn w g its) : PlanAt w g its := by
  obtain ⟨v, xs, base, h1, h2, h3⟩ := h
  exact ⟨v, xs, h1, ItemsV.of_at h2, h3⟩

/-- The two results' blocks of New. -/
structure Door2 (N : Nat) (x0 : Value) (x1 : Int) (w : World) : Prop where
  b0 : w.heap[N]? = some (.cells #[x0] 35)
  b1 : w.heap[N + 1]? = some (.cells #[.int .i64 x1] 27)
theorem Door2.cells {N : Nat} {x0 : Value} {x1 : Int} {w : World} (h : Door2 N x0 x1 w) :
    (w.cell? ⟨N, 0, none⟩ = some x0 ∧ w.cell? ⟨N + 1, 0, none⟩ = some (.int .i64 x1)) ∧ w.frozen? ⟨N, 0, none⟩ = false ∧ w.frozen? ⟨N + 1, 0, none⟩ = false := by
  have h0 := h.b0
  have h1 := h.b1
  simp [World.cell?, World.frozen?, h0, h1]
theorem Door2.below {N : Nat} {x0 : Value} {x1 : Int} {w w' : World} (h : Door2 N x0 x1 w) (g : Below w.heap.size w w') : Door2 N x0 x1 w' :=
  ⟨by rw [g.block _ (lt_of_block h.b0)]; exact h.b0, by rw [g.block _ (lt_of_block h.b1)]; exact h.b1⟩
theorem Door2.set0 {N : Nat} {x0 y0 : Value} {x1 : Int} {w : World} (h : Door2 N x0 x1 w) : Door2 N y0 x1 (w.setCell ⟨N, 0, none⟩ y0) := by
  refine ⟨?_, ?_⟩
  · rw [heap_set_same h.b0]; rfl
  · rw [Below.heap_setCell _ _ _ _ (by simp only; omega)]; exact h.b1
theorem Door2.set1 {N : Nat} {x0 : Value} {x1 y1 : Int} {w : World} (h : Door2 N x0 x1 w) : Door2 N x0 y1 (w.setCell ⟨N + 1, 0, none⟩ (.int .i64 y1)) := by
  refine ⟨?_, ?_⟩
  · rw [Below.heap_setCell _ _ _ _ (by simp only; omega)]; exact h.b0
  · rw [heap_set_same h.b1]; rfl

set_option maxRecDepth 100000 in
set_option maxHeartbeats 400000 in
theorem ncatch_panicking (B N : Nat) (x0 : Value) (x1 : Int) (p : Int) (older : List PanicEntry) (w : World) (hd : Door2 N x0 x1 w) (hB : B ≤ N) :
    CallsD Tryz.prog 49 #[.pointer (some ⟨N, 0, none⟩), .pointer (some ⟨N + 1, 0, none⟩)] (.panicking ({ v := .iface 110 (.agg #[.int .i64 p]), recovered := false } :: older)) w fun e u' w' =>
      e = .returned (.tuple #[]) ∧ u' = .panicking ({ v := .iface 110 (.agg #[.int .i64 p]), recovered := true } :: older) ∧ Door2 N (.pointer none) 1 w' ∧ Below B w w' := by
  have hlt := lt_of_block hd.b1
  obtain ⟨⟨c0, c1⟩, f0, f1⟩ := hd.cells
  have HD := hide (hd.set0 (y0 := .pointer none))
  clear hd c1 f1
  refine callsD_of_wpS Tryz.func49 rfl fun c₀ cs hu => ?_
  apply wpS_seq
  apply wpS_region
  simp [wpOpsS, go_sem, recoverD, hu, Tryz.ntmps49, Exit.thenS]
  rw [show (#[Value.pointer (some ⟨N, 0, none⟩), Value.pointer (some ⟨N + 1, 0, none⟩)] ++ ((Array.replicate 9 undef).setIfInBounds 1 (Value.iface 110 (Value.agg #[Value.int IntKind.i64 p]))).setIfInBounds 0 (Value.iface 110 (Value.agg #[Value.int IntKind.i64 p]))) = #[Value.pointer (some ⟨N, 0, none⟩), Value.pointer (some ⟨N + 1, 0, none⟩), Value.iface 110 (Value.agg #[Value.int IntKind.i64 p]), Value.iface 110 (Value.agg #[Value.int IntKind.i64 p]), undef, undef, undef, undef, undef, undef, undef] from rfl]
  refine wpS_of_wp ?_
  go_wp2_with fail
  refine (faultOf_any _ _).mono ?_
  rintro e w1 ⟨rfl, hb⟩
  have HD1 := hide ((unhide HD).below hb)
  have HB := hide hb
  have hs : w.heap.size ≤ w1.heap.size := by have := hb.size; simpa using this
  obtain ⟨⟨c0, c1⟩, f0, f1⟩ := ((unhide HD).below hb).cells
  clear hb
  go_wp2
  refine ⟨rfl, _, rfl, .tuple #[], by simp [results, Tryz.results49], rfl, rfl, (unhide HD1).set1, ?_⟩
  have hb0 : Below B w (w.setCell ⟨N, 0, none⟩ (.pointer none)) := (Below.refl _ _).setCell (p := ⟨N, 0, none⟩) hB _
  exact (hb0.trans ((unhide HB).mono (by simp; omega))).setCell (p := ⟨N + 1, 0, none⟩) (by simp only; omega) _

set_option maxRecDepth 100000 in
set_option maxHeartbeats 400000 in
theorem ncatch_idle (N : Nat) (w : World) :
    CallsD Tryz.prog 49 #[.pointer (some ⟨N, 0, none⟩), .pointer (some ⟨N + 1, 0, none⟩)] .returning w fun e u' w' => e = .returned (.tuple #[]) ∧ u' = .returning ∧ w' = w := by
  refine callsD_of_wpS Tryz.func49 rfl fun c₀ cs hu => ?_
  apply wpS_seq
  apply wpS_region
  simp [wpOpsS, go_sem, recoverD, hu, Tryz.ntmps49, Exit.thenS]
  rw [show (#[Value.pointer (some ⟨N, 0, none⟩), Value.pointer (some ⟨N + 1, 0, none⟩)] ++ ((Array.replicate 9 undef).setIfInBounds 1 (Value.nilIface)).setIfInBounds 0 (Value.nilIface)) = #[Value.pointer (some ⟨N, 0, none⟩), Value.pointer (some ⟨N + 1, 0, none⟩), Value.nilIface, Value.nilIface, undef, undef, undef, undef, undef, undef, undef] from rfl]
  refine wpS_of_wp ?_
  have HU := hide hu
  clear hu
  go_wp2
  refine ⟨rfl, .returning, ?_, .tuple #[], by simp [results, Tryz.results49], rfl, rfl, rfl⟩
  have := unhide HU
  cases c₀
  simp_all

/-- What New leaves. -/
def NewOf (s : ByteArray) (w : World) (e : Ending) (w' : World) : Prop :=
  (∃ n ce, planOf s = .inl (n, ce) ∧ e = .returned (.tuple #[.pointer none, .int .i64 ce]) ∧ Below w.heap.size w w') ∨
  (∃ its g, planOf s = .inr its ∧ e = .returned (.tuple #[.pointer (some ⟨g, 0, none⟩), .int .i64 0]) ∧ Below w.heap.size w w' ∧ w.heap.size ≤ g ∧ PlanAt w' g its)

def NewOwn (s : ByteArray) (w : World) (e : Ending) (w' : World) : Prop :=
  (∃ n ce, planOf s = .inl (n, ce) ∧ e = .returned (.tuple #[.pointer none, .int .i64 ce]) ∧ Below w.heap.size w w') ∨
  (∃ its g, planOf s = .inr its ∧ e = .returned (.tuple #[.pointer (some ⟨g, 0, none⟩), .int .i64 0]) ∧ Below w.heap.size w w' ∧ w.heap.size ≤ g ∧ POwn w' g its)

set_option maxRecDepth 100000 in
set_option maxHeartbeats 1600000 in
theorem new_own (s : ByteArray) (w : World) (hm : s.size ≤ maxLen) : Calls Tryz.prog 28 #[.string s] w (NewOwn s w) := by
  have hmf : ∀ (fn : Fn) (first cap : Array Value) (w : World), (Instr.makeFunc fn first cap).run Tryz.prog w = .ok (.func fn first cap) w := fun _ _ _ _ => rfl
  have HM := hide hm
  clear hm
  have HD0 : Hid (Door2 w.heap.size (.pointer none) 0 ((w.alloc (.cells #[.pointer none] 35)).alloc (.cells #[.int .i64 0] 27))) := by
    refine ⟨?_, ?_⟩
    · rw [Below.heap_alloc _ _ _ (by simp)]; exact alloc_last w _
    · have := alloc_last (w.alloc (.cells #[.pointer none] 35)) (.cells #[.int .i64 0] 27)
      simpa using this
  have HB0 : Hid (Below w.heap.size w ((w.alloc (.cells #[.pointer none] 35)).alloc (.cells #[.int .i64 0] 27))) := hide (((Below.refl _ w).alloc (Nat.le_refl _) _).alloc (by simp) _)
  go_enter_defers Tryz.func28, Tryz.ntmps28
  go_wp2_with fail
  refine (itemsOf_any s _ (unhide HM)).mono ?_
  rintro e w1 (⟨p, hp, rfl, hb1⟩ | ⟨cn, ce, ao, n, cap, hp, hz, rfl, hb1⟩ | ⟨its, cn, ao, n, cap, xs, hp, rfl, hb1, hxs, hit, hwf, hx1, hn⟩)
  · have HF := hide hp
    have HD1 := hide ((unhide HD0).below hb1)
    have HB1 := hide (below_after (unhide HB0) hb1)
    clear hp hb1
    go_wp2_with fail
    refine leaves_cons (f := 49) (args := #[.pointer (some ⟨w.heap.size, 0, none⟩), .pointer (some ⟨w.heap.size + 1, 0, none⟩)]) (by simp) (by simp [go_sem]) ?_
    refine (ncatch_panicking w.heap.size w.heap.size _ _ _ [] _ (unhide HD1) (Nat.le_refl _)).mono ?_
    rintro e u' w'' ⟨rfl, rfl, hd, hb⟩
    obtain ⟨⟨c0, c1⟩, _⟩ := hd.cells
    simp [Leaves, settle, results, Tryz.results28, go_sem, c0, c1]
    exact Or.inl ⟨p, 1, unhide HF, rfl, (unhide HB1).trans hb⟩
  · have HF := hide hp
    have HD2 := hide ((unhide HD0).below hb1)
    have HB2 := hide (below_after (unhide HB0) hb1)
    obtain ⟨⟨c0, c1⟩, f0, f1⟩ := ((unhide HD0).below hb1).cells
    have HD3 := hide ((unhide HD2).set1 (y1 := ce))
    have HB3 := hide ((unhide HB2).setCell (p := ⟨w.heap.size + 1, 0, none⟩) (by simp only; omega) (.int .i64 ce))
    have hzb : (ce != 0) = true := by rw [bne_iff_ne]; exact hz
    clear hp hb1 hz HD0 HB0
    go_wp2_with fail
    generalize w1.setCell ⟨w.heap.size + 1, 0, none⟩ (.int .i64 ce) = w3 at *
    clear c0 c1 f0 f1 HD2 HB2
    obtain ⟨⟨c0, c1⟩, f0, f1⟩ := (unhide HD3).cells
    go_region
    all_goals
      go_wp2
      refine leaves_cons (f := 49) (args := #[.pointer (some ⟨w.heap.size, 0, none⟩), .pointer (some ⟨w.heap.size + 1, 0, none⟩)]) (by simp) (by simp [go_sem]) ?_
      refine (ncatch_idle w.heap.size _).mono ?_
      rintro e u' w'' ⟨rfl, rfl, rfl⟩
      simp [Leaves, settle, results, Tryz.results28, go_sem, c0, c1]
      refine Or.inl ⟨cn, ce, unhide HF, rfl, ?_⟩
      first | exact (((unhide HB3).setCell (p := ⟨w.heap.size, 0, none⟩) (Nat.le_refl _) _).setCell (p := ⟨w.heap.size + 1, 0, none⟩) (by simp only; omega) _).drew | exact ((unhide HB3).setCell (p := ⟨w.heap.size, 0, none⟩) (Nat.le_refl _) _).setCell (p := ⟨w.heap.size + 1, 0, none⟩) (by simp only; omega) _
  · subst hn
    have HF := hide hp
    have hok := planOf_ok hp
    have HK := hide hok
    have HX := hide hxs
    have HWF := hide hwf
    have HD2 := hide ((unhide HD0).below hb1)
    have HB2 := hide (below_after (unhide HB0) hb1)
    obtain ⟨⟨c0, c1⟩, f0, f1⟩ := ((unhide HD0).below hb1).cells
    have HD3 := hide ((unhide HD2).set1 (y1 := 0))
    have HB3 := hide ((unhide HB2).setCell (p := ⟨w.heap.size + 1, 0, none⟩) (by simp only; omega) (.int .i64 0))
    obtain ⟨w4, hw4⟩ : ∃ w4, w4 = ((w1.setCell ⟨w.heap.size + 1, 0, none⟩ (.int .i64 0)).setCell ⟨w.heap.size, 0, none⟩ (.pointer (some ⟨w1.heap.size, 0, none⟩))).setCell ⟨w.heap.size + 1, 0, none⟩ (.int .i64 0) := ⟨_, rfl⟩
    have hs4 : w4.heap.size = w1.heap.size := by rw [hw4]; simp [World.setCell]
    have HV4 := hide (hit.all (w' := w4.alloc (.cells #[.slice ao xs.length cap] 98)) (fun g hg hlt => by
      simp at hg
      rw [Below.heap_alloc _ _ _ (by omega), hw4, Below.heap_setCell _ _ _ _ (by simp only; omega), Below.heap_setCell _ _ _ _ (by simp only; omega), Below.heap_setCell _ _ _ _ (by simp only; omega)]))
    have hD4 : Door2 w.heap.size (.pointer (some ⟨w1.heap.size, 0, none⟩)) 0 w4 := by rw [hw4]; exact (((unhide HD2).set1 (y1 := 0)).set0).set1
    have hB4 : Below w.heap.size w w4 := by
      rw [hw4]
      exact (((unhide HB2).setCell (p := ⟨w.heap.size + 1, 0, none⟩) (by simp only; omega) _).setCell (p := ⟨w.heap.size, 0, none⟩) (Nat.le_refl _) _).setCell (p := ⟨w.heap.size + 1, 0, none⟩) (by simp only; omega) _
    have hba : Below w4.heap.size w4 (w4.alloc (.cells #[.slice ao xs.length cap] 98)) := (Below.refl _ w4).alloc (Nat.le_refl _) _
    have HD5 := hide (hD4.below hba)
    have HB5 := hide (below_after hB4 hba)
    have HN5 : Hid ((w4.alloc (.cells #[.slice ao xs.length cap] 98)).heap[w1.heap.size]? = some (.cells #[.slice ao xs.length cap] 98)) := hide (by rw [← hs4]; exact alloc_last w4 _)
    have HW4 := hide hw4
    have HLE := hide (unhide HB2).size
    clear hw4 hs4 hD4 hB4 hba
    have hlt0 := lt_of_block (unhide HD2).b0
    have hlt1 := lt_of_block (unhide HD2).b1
    clear hp hb1 hok hxs hwf hit HD0 HB0
    go_wp2_with fail
    rw [← unhide HW4]
    refine leaves_cons (f := 49) (args := #[.pointer (some ⟨w.heap.size, 0, none⟩), .pointer (some ⟨w.heap.size + 1, 0, none⟩)]) (by simp) (by simp [go_sem]) ?_
    refine (ncatch_idle w.heap.size _).mono ?_
    rintro e u' w'' ⟨rfl, rfl, rfl⟩
    obtain ⟨⟨d0, d1⟩, _⟩ := (unhide HD5).cells
    simp only [Leaves, settle, results, Tryz.results28]
    simp [go_sem, d0, d1]
    exact Or.inr ⟨its, w1.heap.size, unhide HF, rfl, unhide HB5, unhide HLE, _, xs, _, unhide HN5, unhide HV4, unhide HX, unhide HWF, unhide HK⟩
theorem new_any (s : ByteArray) (w : World) (hm : s.size ≤ maxLen) : Calls Tryz.prog 28 #[.string s] w (NewOf s w) :=
  (new_own s w hm).mono fun _ _ h => by
    rcases h with h | ⟨its, g, h1, h2, h3, h4, h5⟩
    · exact Or.inl h
    · exact Or.inr ⟨its, g, h1, h2, h3, h4, h5.plan⟩
end Go.Proofs.YthnggjaecngbiaaGreatDoor
