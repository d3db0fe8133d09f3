import Derived.Test.YtdgbmcbkbkbdoaaGreatDoorFaA
import Derived.Test.YtdgbmcbkbkbdoaaGreatDoorCnA
import Derived.Test.YtdgbmcbkbkbdoaaGreatDoorFtA
import Derived.Test.YtdgbmcbkbkbdoaaGreatDoorEvG
import Derived.Test.YtdgbmcbkbkbdoaaGreatDoorExA
namespace Go.Proofs.YtdgbmcbkbkbdoaaGreatDoor
open Go.RowKit
def PlanAt (w : World) (g : Nat) (its : List PItem) : Prop :=
 ∃ v xs, w.heap[g]? = some (.cells #[v] 94) ∧ ItemsV w v xs ∧ xs.map LItem.it = its ∧ (∀ x ∈ xs, WfI x.it) ∧ OkPlan its
theorem PlanAt.below {w w' : World} {g : Nat} {its : List PItem} (h : PlanAt w g its) (b : Below w.heap.size w w') : PlanAt w' g its := by
 obtain ⟨v, xs, h1, h2, h3⟩ := h
 exact ⟨v, xs, (b.block g (lt_of_block h1)).trans h1, h2.below b, h3⟩
def POwn (w : World) (g : Nat) (its : List PItem) : Prop :=
 ∃ v xs base, w.heap[g]? = some (.cells #[v] 94) ∧ ItemsAt base w v xs ∧ xs.map LItem.it = its ∧ (∀ x ∈ xs, WfI x.it) ∧ OkPlan its
theorem POwn.plan {w : World} {g : Nat} {its : List PItem} (h : POwn w g its) : PlanAt w g its := by
 obtain ⟨v, xs, base, h1, h2, h3⟩ := h
 exact ⟨v, xs, h1, ItemsV.of_at h2, h3⟩
structure Door2 (N : Nat) (x0 : Value) (x1 : Int) (w : World) : Prop where
 b0 : w.heap[N]? = some (.cells #[x0] 35)
 b1 : w.heap[N + 1]? = some (.cells #[.int .i64 x1] 27)
theorem Door2.cells {N : Nat} {x0 : Value} {x1 : Int} {w : World} (h : Door2 N x0 x1 w) :
  (w.cell? ⟨N, 0, none⟩ = some x0 ∧ w.cell? ⟨N + 1, 0, none⟩ = some (.int .i64 x1)) ∧ w.frozen? ⟨N, 0, none⟩ = false ∧ w.frozen? ⟨N + 1, 0, none⟩ = false := by
 have h0 := h.b0
 have h1 := h.b1
 simp [World.cell?, World.frozen?, h0, h1]
theorem Door2.below {N : Nat} {x0 : Value} {x1 : Int} {w w' : World} (h : Door2 N x0 x1 w) (g : Below w.heap.size w w') : Door2 N x0 x1 w' :=
 ⟨by rw [g.block _ (lt_of_block h.b0)]; exact h.b0, by rw [g.block _ (lt_of_block h.b1)]; exact h.b1⟩
theorem Door2.set0 {N : Nat} {x0 y0 : Value} {x1 : Int} {w : World} (h : Door2 N x0 x1 w) : Door2 N y0 x1 (w.setCell ⟨N, 0, none⟩ y0) := by
 refine ⟨?_, ?_⟩
 ·rw [heap_set_same h.b0]; rfl
 ·rw [Below.heap_setCell _ _ _ _ (by simp only; omega)]; exact h.b1
theorem Door2.set1 {N : Nat} {x0 : Value} {x1 y1 : Int} {w : World} (h : Door2 N x0 x1 w) : Door2 N x0 y1 (w.setCell ⟨N + 1, 0, none⟩ (.int .i64 y1)) := by
 refine ⟨?_, ?_⟩
 ·rw [Below.heap_setCell _ _ _ _ (by simp only; omega)]; exact h.b0
 ·rw [heap_set_same h.b1]; rfl
set_option maxRecDepth 100000 in
set_option maxHeartbeats 400000 in
theorem ncatch_panicking (B N : Nat) (x0 : Value) (x1 : Int) (p : Int) (older : List PanicEntry) (w : World) (hd : Door2 N x0 x1 w) (hB : B ≤ N) :
  CallsD Tryz.prog 43 #[.pointer (some ⟨N, 0, none⟩), .pointer (some ⟨N + 1, 0, none⟩)] (.panicking ({ v := .iface 105 (.agg #[.int .i64 p]), recovered := false } :: older)) w fun e u' w' =>
   e = .returned (.tuple #[]) ∧ u' = .panicking ({ v := .iface 105 (.agg #[.int .i64 p]), recovered := true } :: older) ∧ Door2 N (.pointer none) 1 w' ∧ Below B w w' := by
 have hlt := lt_of_block hd.b1
 obtain ⟨⟨c0, c1⟩, f0, f1⟩ := hd.cells
 have HD := hide (hd.set0 (y0 := .pointer none))
 clear hd c1 f1
 refine callsD_of_wpS Tryz.func43 rfl fun c₀ cs hu => ?_
 apply wpS_seq
 apply wpS_region
 simp [wpOpsS, go_sem, recoverD, hu, Tryz.ntmps43, Exit.thenS]
 rw [show (#[Value.pointer (some ⟨N, 0, none⟩), Value.pointer (some ⟨N + 1, 0, none⟩)] ++ ((Array.replicate 9 undef).setIfInBounds 1 (Value.iface 105 (Value.agg #[Value.int IntKind.i64 p]))).setIfInBounds 0 (Value.iface 105 (Value.agg #[Value.int IntKind.i64 p]))) = #[Value.pointer (some ⟨N, 0, none⟩), Value.pointer (some ⟨N + 1, 0, none⟩), Value.iface 105 (Value.agg #[Value.int IntKind.i64 p]), Value.iface 105 (Value.agg #[Value.int IntKind.i64 p]), undef, undef, undef, undef, undef, undef, undef] from rfl]
 refine wpS_of_wp ?_
 go_wp2_with fail
 refine (faultOf_any _ _).mono ?_
 rintro e w1 ⟨rfl, hb⟩
 have HD1 := hide ((uh HD).below hb)
 have HB := hide hb
 have hs : w.heap.size ≤ w1.heap.size := by have := hb.size; simpa using this
 obtain ⟨⟨c0, c1⟩, f0, f1⟩ := ((uh HD).below hb).cells
 clear hb
 go_wp2
 refine ⟨rfl, _, rfl, .tuple #[], by simp [results, Tryz.results43], rfl, rfl, (uh HD1).set1, ?_⟩
 have hb0 : Below B w (w.setCell ⟨N, 0, none⟩ (.pointer none)) := (Below.refl _ _).setCell (p := ⟨N, 0, none⟩) hB _
 exact (hb0.trans ((uh HB).mono (by simp; omega))).setCell (p := ⟨N + 1, 0, none⟩) (by simp only; omega) _
set_option maxRecDepth 100000 in
set_option maxHeartbeats 400000 in
theorem ncatch_idle (N : Nat) (w : World) :
  CallsD Tryz.prog 43 #[.pointer (some ⟨N, 0, none⟩), .pointer (some ⟨N + 1, 0, none⟩)] .returning w fun e u' w' => e = .returned (.tuple #[]) ∧ u' = .returning ∧ w' = w := by
 refine callsD_of_wpS Tryz.func43 rfl fun c₀ cs hu => ?_
 apply wpS_seq
 apply wpS_region
 simp [wpOpsS, go_sem, recoverD, hu, Tryz.ntmps43, Exit.thenS]
 rw [show (#[Value.pointer (some ⟨N, 0, none⟩), Value.pointer (some ⟨N + 1, 0, none⟩)] ++ ((Array.replicate 9 undef).setIfInBounds 1 (Value.nilIface)).setIfInBounds 0 (Value.nilIface)) = #[Value.pointer (some ⟨N, 0, none⟩), Value.pointer (some ⟨N + 1, 0, none⟩), Value.nilIface, Value.nilIface, undef, undef, undef, undef, undef, undef, undef] from rfl]
 refine wpS_of_wp ?_
 have HU := hide hu
 clear hu
 go_wp2
 refine ⟨rfl, .returning, ?_, .tuple #[], by simp [results, Tryz.results43], rfl, rfl, rfl⟩
 have := uh HU
 cases c₀
 simp_all
def NewOf (s : ByteArray) (w : World) (e : Ending) (w' : World) : Prop :=
 (∃ n ce, planOf s = .inl (n, ce) ∧ e = .returned (.tuple #[.pointer none, .int .i64 ce]) ∧ Below w.heap.size w w') ∨
 (∃ its g, planOf s = .inr its ∧ e = .returned (.tuple #[.pointer (some ⟨g, 0, none⟩), .int .i64 0]) ∧ Below w.heap.size w w' ∧ w.heap.size ≤ g ∧ PlanAt w' g its)
def NewOwn (s : ByteArray) (w : World) (e : Ending) (w' : World) : Prop :=
 (∃ n ce, planOf s = .inl (n, ce) ∧ e = .returned (.tuple #[.pointer none, .int .i64 ce]) ∧ Below w.heap.size w w') ∨
 (∃ its g, planOf s = .inr its ∧ e = .returned (.tuple #[.pointer (some ⟨g, 0, none⟩), .int .i64 0]) ∧ Below w.heap.size w w' ∧ w.heap.size ≤ g ∧ POwn w' g its)
set_option maxRecDepth 100000 in
set_option maxHeartbeats 1600000 in
theorem new_own (s : ByteArray) (w : World) (hm : s.size ≤ maxLen) : Calls Tryz.prog 26 #[.string s] w (NewOwn s w) := by
 have hmf : ∀ (fn : Fn) (first cap : Array Value) (w : World), (Instr.makeFunc fn first cap).run Tryz.prog w = .ok (.func fn first cap) w := fun _ _ _ _ => rfl
 have HM := hide hm
 clear hm
 have HD0 : Hid (Door2 w.heap.size (.pointer none) 0 ((w.alloc (.cells #[.pointer none] 35)).alloc (.cells #[.int .i64 0] 27))) := by
  refine ⟨?_, ?_⟩
  ·rw [Below.heap_alloc _ _ _ (by simp)]; exact alloc_last w _
  ·have := alloc_last (w.alloc (.cells #[.pointer none] 35)) (.cells #[.int .i64 0] 27)
   simpa using this
 have HB0 : Hid (Below w.heap.size w ((w.alloc (.cells #[.pointer none] 35)).alloc (.cells #[.int .i64 0] 27))) := hide (((Below.refl _ w).alloc (Nat.le_refl _) _).alloc (by simp) _)
 go_enter_defers Tryz.func26, Tryz.ntmps26
 go_wp2_with fail
 refine (itemsOf_any s _ (uh HM)).mono ?_
 rintro e w1 (⟨p, hp, rfl, hb1⟩ | ⟨cn, ce, ao, n, cap, hp, hz, rfl, hb1⟩ | ⟨its, cn, ao, n, cap, xs, hp, rfl, hb1, hxs, hit, hwf, hx1, hn⟩)
 ·have HF := hide hp
  have HD1 := hide ((uh HD0).below hb1)
  have HB1 := hide (below_after (uh HB0) hb1)
  clear hp hb1
  go_wp2_with fail
  refine leaves_cons (f := 43) (args := #[.pointer (some ⟨w.heap.size, 0, none⟩), .pointer (some ⟨w.heap.size + 1, 0, none⟩)]) (by simp) (by simp [go_sem]) ?_
  refine (ncatch_panicking w.heap.size w.heap.size _ _ _ [] _ (uh HD1) (Nat.le_refl _)).mono ?_
  rintro e u' w'' ⟨rfl, rfl, hd, hb⟩
  obtain ⟨⟨c0, c1⟩, _⟩ := hd.cells
  simp [Leaves, settle, results, Tryz.results26, go_sem, c0, c1]
  exact Or.inl ⟨p, 1, uh HF, rfl, (uh HB1).trans hb⟩
 ·have HF := hide hp
  have HD2 := hide ((uh HD0).below hb1)
  have HB2 := hide (below_after (uh HB0) hb1)
  obtain ⟨⟨c0, c1⟩, f0, f1⟩ := ((uh HD0).below hb1).cells
  have HD3 := hide ((uh HD2).set1 (y1 := ce))
  have HB3 := hide ((uh HB2).setCell (p := ⟨w.heap.size + 1, 0, none⟩) (by simp only; omega) (.int .i64 ce))
  have hzb : (ce != 0) = true := by rw [bne_iff_ne]; exact hz
  clear hp hb1 hz HD0 HB0
  go_wp2_with fail
  generalize w1.setCell ⟨w.heap.size + 1, 0, none⟩ (.int .i64 ce) = w3 at *
  clear c0 c1 f0 f1 HD2 HB2
  obtain ⟨⟨c0, c1⟩, f0, f1⟩ := (uh HD3).cells
  go_region
  all_goals
   go_wp2
   refine leaves_cons (f := 43) (args := #[.pointer (some ⟨w.heap.size, 0, none⟩), .pointer (some ⟨w.heap.size + 1, 0, none⟩)]) (by simp) (by simp [go_sem]) ?_
   refine (ncatch_idle w.heap.size _).mono ?_
   rintro e u' w'' ⟨rfl, rfl, rfl⟩
   simp [Leaves, settle, results, Tryz.results26, go_sem, c0, c1]
   refine Or.inl ⟨cn, ce, uh HF, rfl, ?_⟩
   first | exact (((uh HB3).setCell (p := ⟨w.heap.size, 0, none⟩) (Nat.le_refl _) _).setCell (p := ⟨w.heap.size + 1, 0, none⟩) (by simp only; omega) _).drew | exact ((uh HB3).setCell (p := ⟨w.heap.size, 0, none⟩) (Nat.le_refl _) _).setCell (p := ⟨w.heap.size + 1, 0, none⟩) (by simp only; omega) _
 ·subst hn
  have HF := hide hp
  have hok := planOf_ok hp
  have HK := hide hok
  have HX := hide hxs
  have HWF := hide hwf
  have HD2 := hide ((uh HD0).below hb1)
  have HB2 := hide (below_after (uh HB0) hb1)
  obtain ⟨⟨c0, c1⟩, f0, f1⟩ := ((uh HD0).below hb1).cells
  have HD3 := hide ((uh HD2).set1 (y1 := 0))
  have HB3 := hide ((uh HB2).setCell (p := ⟨w.heap.size + 1, 0, none⟩) (by simp only; omega) (.int .i64 0))
  obtain ⟨w4, hw4⟩ : ∃ w4, w4 = ((w1.setCell ⟨w.heap.size + 1, 0, none⟩ (.int .i64 0)).setCell ⟨w.heap.size, 0, none⟩ (.pointer (some ⟨w1.heap.size, 0, none⟩))).setCell ⟨w.heap.size + 1, 0, none⟩ (.int .i64 0) := ⟨_, rfl⟩
  have hs4 : w4.heap.size = w1.heap.size := by rw [hw4]; simp [World.setCell]
  have HV4 := hide (hit.all (w' := w4.alloc (.cells #[.slice ao xs.length cap] 94)) (fun g hg hlt => by
   simp at hg
   rw [Below.heap_alloc _ _ _ (by omega), hw4, Below.heap_setCell _ _ _ _ (by simp only; omega), Below.heap_setCell _ _ _ _ (by simp only; omega), Below.heap_setCell _ _ _ _ (by simp only; omega)]))
  have hD4 : Door2 w.heap.size (.pointer (some ⟨w1.heap.size, 0, none⟩)) 0 w4 := by rw [hw4]; exact (((uh HD2).set1 (y1 := 0)).set0).set1
  have hB4 : Below w.heap.size w w4 := by
   rw [hw4]
   exact (((uh HB2).setCell (p := ⟨w.heap.size + 1, 0, none⟩) (by simp only; omega) _).setCell (p := ⟨w.heap.size, 0, none⟩) (Nat.le_refl _) _).setCell (p := ⟨w.heap.size + 1, 0, none⟩) (by simp only; omega) _
  have hba : Below w4.heap.size w4 (w4.alloc (.cells #[.slice ao xs.length cap] 94)) := (Below.refl _ w4).alloc (Nat.le_refl _) _
  have HD5 := hide (hD4.below hba)
  have HB5 := hide (below_after hB4 hba)
  have HN5 : Hid ((w4.alloc (.cells #[.slice ao xs.length cap] 94)).heap[w1.heap.size]? = some (.cells #[.slice ao xs.length cap] 94)) := hide (by rw [← hs4]; exact alloc_last w4 _)
  have HW4 := hide hw4
  have HLE := hide (uh HB2).size
  clear hw4 hs4 hD4 hB4 hba
  have hlt0 := lt_of_block (uh HD2).b0
  have hlt1 := lt_of_block (uh HD2).b1
  clear hp hb1 hok hxs hwf hit HD0 HB0
  go_wp2_with fail
  rw [← uh HW4]
  refine leaves_cons (f := 43) (args := #[.pointer (some ⟨w.heap.size, 0, none⟩), .pointer (some ⟨w.heap.size + 1, 0, none⟩)]) (by simp) (by simp [go_sem]) ?_
  refine (ncatch_idle w.heap.size _).mono ?_
  rintro e u' w'' ⟨rfl, rfl, rfl⟩
  obtain ⟨⟨d0, d1⟩, _⟩ := (uh HD5).cells
  simp only [Leaves, settle, results, Tryz.results26]
  simp [go_sem, d0, d1]
  exact Or.inr ⟨its, w1.heap.size, uh HF, rfl, uh HB5, uh HLE, _, xs, _, uh HN5, uh HV4, uh HX, uh HWF, uh HK⟩
theorem new_any (s : ByteArray) (w : World) (hm : s.size ≤ maxLen) : Calls Tryz.prog 26 #[.string s] w (NewOf s w) :=
 (new_own s w hm).mono fun _ _ h => by
  rcases h with h | ⟨its, g, h1, h2, h3, h4, h5⟩
  ·exact Or.inl h
  ·exact Or.inr ⟨its, g, h1, h2, h3, h4, h5.plan⟩
end Go.Proofs.YtdgbmcbkbkbdoaaGreatDoor
namespace Go.Proofs.YtdgbmcbkbkbdoaaGreatDoor
open Go.RowKit
set_option maxHeartbeats 400000 in
theorem all_any (g : Nat) (v : Value) (w : World) (h : w.heap[g]? = some (.cells #[v] 94)) (hv : ∃ ao n cap, v = .slice ao n cap) :
  Calls Tryz.prog 38 #[.pointer (some ⟨g, 0, none⟩)] w fun e w' => e = .returned v ∧ w' = w := by
 obtain ⟨ao, n, cap, rfl⟩ := hv
 have c0 : w.cell? ⟨g, 0, none⟩ = some (.slice ao n cap) := by simp [World.cell?, h]
 have hl := lt_of_block h
 clear h
 go_enter Tryz.func38, Tryz.ntmps38
 go_wp2
 go_ret
 exact ⟨rfl, rfl⟩
def labelP (its : List PItem) (nm : ByteArray) : Int × Int := if namedP its nm then ((((labsP its).getD (placeP its nm).toNat 0 : Nat) : Int), 0) else (0, 4)
set_option maxRecDepth 100000 in
set_option maxHeartbeats 800000 in
theorem label_any (g : Nat) (its : List PItem) (nm : ByteArray) (w : World) (h : PlanAt w g its) :
  Calls Tryz.prog 16 #[.pointer (some ⟨g, 0, none⟩), .string nm] w fun e w' => e = .returned (.tuple #[.int .i64 (labelP its nm).1, .int .i64 (labelP its nm).2]) ∧ Below w.heap.size w w' := by
 obtain ⟨v, xs, hN, hit, hxs, hwf, hok⟩ := h
 obtain ⟨ao, cap, rfl⟩ := hit.1.form
 have hlen : xs.length ≤ 12 := by have := hok.len; rw [← hxs] at this; simpa using this
 have HN := hide hN
 have HI := hide hit
 have HX := hide hxs
 have HK := hide hok
 clear hN hit hxs hok hwf
 cases hn : namedP its nm with
 | false =>
  have HP := hide (placeP_out hn)
  have HL : Hid (labelP its nm = (0, 4)) := hide (by unfold labelP; rw [if_neg (by rw [hn]; simp)])
  clear hn
  go_enter Tryz.func16, Tryz.ntmps16
  go_wp2_with fail
  refine (all_any g _ _ (uh HN) ⟨_, _, _, rfl⟩).mono ?_
  rintro e w1 ⟨rfl, rfl⟩
  go_wp2_with fail
  refine (place_any _ xs nm _ (uh HI) (by omega)).mono ?_
  rintro e w2 ⟨rfl, hb2⟩
  rw [uh HX, uh HP]
  have HB2 := hide hb2
  clear hb2
  go_wp2_with fail
  go_ret2
  rw [uh HL]
  exact ⟨rfl, uh HB2⟩
 | true =>
  obtain ⟨i, hp, hi⟩ := placeP_in hn
  have HL : Hid (labelP its nm = ((((labsP its).getD i 0 : Nat) : Int), 0)) := hide (by unfold labelP; rw [if_pos hn, hp, Int.toNat_natCast])
  have HP := hide hp
  clear hn hp
  go_enter Tryz.func16, Tryz.ntmps16
  go_wp2_with fail
  refine (all_any g _ _ (uh HN) ⟨_, _, _, rfl⟩).mono ?_
  rintro e w1 ⟨rfl, rfl⟩
  go_wp2_with fail
  refine (place_any _ xs nm _ (uh HI) (by omega)).mono ?_
  rintro e w2 ⟨rfl, hb2⟩
  rw [uh HX, uh HP]
  have HB2 := hide hb2
  have HN2 := hide ((hb2.block _ (lt_of_block (uh HN))).trans (uh HN))
  have HI2 := hide ((uh HI).below hb2)
  clear hb2
  go_wp2_with fail
  refine (all_any g _ _ (uh HN2) ⟨_, _, _, rfl⟩).mono ?_
  rintro e w3 ⟨rfl, rfl⟩
  go_wp2_with fail
  refine (labels_any _ xs _ (uh HI2) (by rw [uh HX]; exact uh HK)).mono ?_
  rintro e w4 ⟨lv, rfl, hb4, hlo⟩
  rw [uh HX] at hlo
  have hll : (labsP its).length = its.length := by unfold labsP; rw [labsTo_len]
  rcases SlAt.of_owns hlo with ⟨h0, _⟩ | ⟨g3, cap3, hv3, hc3, hm3, hgl3, hx3⟩
  ·omega
  subst hv3
  have k0 : w4.cell? ⟨g3, i, none⟩ = some (.int .i64 ((labsP its).getD i 0 : Int)) := by
   rw [hx3 i (by omega), getD_at _ _ (by omega)]
   simp [nats, hll, hi]
  have hic : (i : Int) < (labsP its).length := by omega
  have HB4 := hide (below_after (uh HB2) hb4)
  generalize (labsP its).getD i 0 = y at *
  clear hx3 hc3 hm3 hb4 hlo hll
  go_wp2_with fail
  go_ret2
  rw [uh HL]
  exact ⟨rfl, uh HB4⟩
def EvalOf (its : List PItem) (vals : List Int) (w : World) (e : Ending) (w' : World) : Prop :=
 (fitsP its vals = false ∧ e = .returned (.tuple #[.slice none 0 0, .int .i64 7]) ∧ Below w.heap.size w w') ∨
 (fitsP its vals = true ∧ ∃ ao cap, e = .returned (.tuple #[.slice ao (tabsP its vals).length cap, .int .i64 0]) ∧ Below w.heap.size w w' ∧ w'.ownsRow w.heap.size 51 2 (.slice ao (tabsP its vals).length cap) (tabsP its vals).length ((tabsP its vals).flatMap vcells))
set_option maxRecDepth 100000 in
set_option maxHeartbeats 800000 in
theorem eval_any (g : Nat) (its : List PItem) (vl : Value) (vals : List Int) (w : World) (h : PlanAt w g its) (hvl : SlAt w 1 vl vals.length (ints vals)) :
  Calls Tryz.prog 18 #[.pointer (some ⟨g, 0, none⟩), vl] w (EvalOf its vals w) := by
 obtain ⟨v, xs, hN, hit, hxs, hwf, hok⟩ := h
 obtain ⟨ao, cap, rfl⟩ := hit.1.form
 obtain ⟨vo, vc, rfl⟩ := hvl.form
 have hlen : xs.length ≤ 12 := by have := hok.len; rw [← hxs] at this; simpa using this
 have HN := hide hN
 have HI := hide hit
 have HX := hide hxs
 have HK := hide hok
 have HWF := hide hwf
 have HV := hide hvl
 clear hN hit hxs hok hwf hvl
 cases hf : fitsP its vals with
 | false =>
  have HF := hide hf
  clear hf
  go_enter Tryz.func18, Tryz.ntmps18
  go_wp2_with fail
  refine (all_any g _ _ (uh HN) ⟨_, _, _, rfl⟩).mono ?_
  rintro e w1 ⟨rfl, rfl⟩
  go_wp2_with fail
  refine (fits_any _ xs _ vals _ (uh HI) hlen (uh HV)).mono ?_
  rintro e w2 ⟨rfl, hb2⟩
  rw [uh HX, uh HF]
  have HB2 := hide hb2
  clear hb2
  go_wp2_with fail
  go_ret2
  exact Or.inl ⟨uh HF, rfl, uh HB2⟩
 | true =>
  have HF := hide hf
  clear hf
  go_enter Tryz.func18, Tryz.ntmps18
  go_wp2_with fail
  refine (all_any g _ _ (uh HN) ⟨_, _, _, rfl⟩).mono ?_
  rintro e w1 ⟨rfl, rfl⟩
  go_wp2_with fail
  refine (fits_any _ xs _ vals _ (uh HI) hlen (uh HV)).mono ?_
  rintro e w2 ⟨rfl, hb2⟩
  rw [uh HX, uh HF]
  have HB2 := hide hb2
  have HN2 := hide ((hb2.block _ (lt_of_block (uh HN))).trans (uh HN))
  have HI2 := hide ((uh HI).below hb2)
  have HV2 := hide ((uh HV).below hb2)
  clear hb2
  go_wp2_with fail
  refine (all_any g _ _ (uh HN2) ⟨_, _, _, rfl⟩).mono ?_
  rintro e w3 ⟨rfl, rfl⟩
  go_wp2_with fail
  refine (tables_any _ xs _ vals _ (uh HI2) (by rw [uh HX]; exact uh HK) (uh HWF) (uh HV2) (by rw [uh HX]; exact (fits_bd (uh HF)).1)).mono ?_
  rintro e w4 ⟨tv, rfl, hb4, hto⟩
  rw [uh HX] at hto
  obtain ⟨tq, tc, rfl⟩ := (SlAt.of_owns hto).form
  have HB4 := hide (below_after (uh HB2) hb4)
  have HTO := hide (owns_base hto (uh HB2).size)
  clear hb4 hto
  go_wp2_with fail
  go_ret2
  exact Or.inr ⟨uh HF, tq, tc, rfl, uh HB4, uh HTO⟩
def explR (its : List PItem) (clear : Int) (vals : List Int) : List UInt8 × Int :=
 if (0 ≤ clear ∧ clear ≤ 7) ∧ fitsP its vals = true then (explainP its clear.toNat vals, 0) else ([], 7)
set_option maxRecDepth 100000 in
set_option maxHeartbeats 800000 in
theorem explain_any (g : Nat) (its : List PItem) (clear : Int) (vl : Value) (vals : List Int) (w : World) (h : PlanAt w g its) (hvl : SlAt w 1 vl vals.length (ints vals)) (ht : Tab w) :
  Calls Tryz.prog 15 #[.pointer (some ⟨g, 0, none⟩), .int .i64 clear, vl] w fun e w' => e = .returned (.tuple #[.string ⟨(explR its clear vals).1.toArray⟩, .int .i64 (explR its clear vals).2]) ∧ Below w.heap.size w w' := by
 obtain ⟨v, xs, hN, hit, hxs, hwf, hok⟩ := h
 obtain ⟨ao, cap, rfl⟩ := hit.1.form
 obtain ⟨vo, vc, rfl⟩ := hvl.form
 have hlen : xs.length ≤ 12 := by have := hok.len; rw [← hxs] at this; simpa using this
 have HN := hide hN
 have HI := hide hit
 have HX := hide hxs
 have HK := hide hok
 have HWF := hide hwf
 have HV := hide hvl
 have HT := hide ht
 clear hN hit hxs hok hwf hvl ht
 cases hc : decide (0 ≤ clear ∧ clear ≤ 7) with
 | false =>
  have HC := hide hc
  have HE : Hid (explR its clear vals = ([], 7)) := hide (by unfold explR; rw [if_neg]; intro h9; simp at hc; omega)
  clear hc
  go_enter Tryz.func15, Tryz.ntmps15
  go_wp2_with fail
  refine (isSet_any _ _).mono ?_
  rintro e w1 ⟨rfl, hb1⟩
  rw [uh HC]
  have HB1 := hide hb1
  clear hb1
  go_wp2_with fail
  go_ret2
  rw [uh HE]
  exact ⟨rfl, uh HB1⟩
 | true =>
  have HC := hide hc
  have hcc : 0 ≤ clear ∧ clear ≤ 7 := by simpa using hc
  clear hc
  cases hf : fitsP its vals with
  | false =>
   have HF := hide hf
   have HE : Hid (explR its clear vals = ([], 7)) := hide (by unfold explR; rw [if_neg]; intro h9; rw [hf] at h9; simp at h9)
   clear hf
   go_enter Tryz.func15, Tryz.ntmps15
   go_wp2_with fail
   refine (isSet_any _ _).mono ?_
   rintro e w1 ⟨rfl, hb1⟩
   rw [uh HC]
   have HB1 := hide hb1
   have HN1 := hide ((hb1.block _ (lt_of_block (uh HN))).trans (uh HN))
   have HI1 := hide ((uh HI).below hb1)
   have HV1 := hide ((uh HV).below hb1)
   clear hb1
   go_wp2_with fail
   refine (all_any g _ _ (uh HN1) ⟨_, _, _, rfl⟩).mono ?_
   rintro e w3 ⟨rfl, rfl⟩
   go_wp2_with fail
   refine (fits_any _ xs _ vals _ (uh HI1) hlen (uh HV1)).mono ?_
   rintro e w2 ⟨rfl, hb2⟩
   rw [uh HX, uh HF]
   have HB2 := hide (below_after (uh HB1) hb2)
   clear hb2
   go_wp2_with fail
   go_ret2
   rw [uh HE]
   exact ⟨rfl, uh HB2⟩
  | true =>
   have HF := hide hf
   obtain ⟨cl, rfl⟩ : ∃ cl : Nat, clear = (cl : Int) := ⟨clear.toNat, by omega⟩
   have HE : Hid (explR its cl vals = (explainP its cl vals, 0)) := hide (by unfold explR; rw [if_pos ⟨hcc, hf⟩, Int.toNat_natCast])
   clear hf
   go_enter Tryz.func15, Tryz.ntmps15
   go_wp2_with fail
   refine (isSet_any _ _).mono ?_
   rintro e w1 ⟨rfl, hb1⟩
   rw [uh HC]
   have HB1 := hide hb1
   have HN1 := hide ((hb1.block _ (lt_of_block (uh HN))).trans (uh HN))
   have HI1 := hide ((uh HI).below hb1)
   have HV1 := hide ((uh HV).below hb1)
   clear hb1
   go_wp2_with fail
   refine (all_any g _ _ (uh HN1) ⟨_, _, _, rfl⟩).mono ?_
   rintro e w3 ⟨rfl, rfl⟩
   go_wp2_with fail
   refine (fits_any _ xs _ vals _ (uh HI1) hlen (uh HV1)).mono ?_
   rintro e w2 ⟨rfl, hb2⟩
   rw [uh HX, uh HF]
   have HB2 := hide (below_after (uh HB1) hb2)
   have HN2 := hide ((hb2.block _ (lt_of_block (uh HN1))).trans (uh HN1))
   have HI2 := hide ((uh HI1).below hb2)
   have HV2 := hide ((uh HV1).below hb2)
   clear hb2
   go_wp2_with fail
   refine (all_any g _ _ (uh HN2) ⟨_, _, _, rfl⟩).mono ?_
   rintro e w4 ⟨rfl, rfl⟩
   go_wp2_with fail
   refine (explWrite_any _ xs cl _ vals _ (uh HI2) (by rw [uh HX]; exact uh HK) (uh HWF) (uh HV2) (by rw [uh HX]; exact uh HF) (by omega) (tab_below (uh HB2) (uh HT))).mono ?_
   rintro e w5 ⟨rfl, hb5⟩
   rw [uh HX]
   have HB5 := hide (below_after (uh HB2) hb5)
   clear hb5
   go_wp2_with fail
   go_ret2
   rw [uh HE]
   exact ⟨rfl, uh HB5⟩
end Go.Proofs.YtdgbmcbkbkbdoaaGreatDoor
