import Derived.Test.YthnggjaecngbiaaGreatDoorSkA
import Derived.Test.YthnggjaecngbiaaGreatDoorLbA
import Derived.Test.YthnggjaecngbiaaGreatDoorRgB
import Derived.Test.YthnggjaecngbiaaGreatDoorShelfB
import Derived.Lib.OwnBridge
import Derived.Sort.OwnSortedInts
namespace Go.Proofs.YthnggjaecngbiaaGreatDoor
open Go.RowKit
theorem turnsP_none {t : PTest} (h : t.kind ≤ 2) : turnsP t = [] := by
 unfold turnsP
 rw [if_neg (by omega), if_neg (by omega), if_neg (by omega), if_neg (by omega)]
set_option maxRecDepth 100000 in
set_option maxHeartbeats 800000 in
theorem turns_none (t0 : Nat) (t1 t2 t3 : Int) (w : World) (hk : 0 ≤ t1 ∧ t1 ≤ 2) :
  Calls Tryz.prog 187 #[.agg #[.int .i64 (t0 : Int), .int .i64 t1, .int .i64 t2, .int .i64 t3]] w fun e w' => e = .returned (.slice none 0 0) ∧ Below w.heap.size w w' := by
 rcases (by omega : t1 = 0 ∨ t1 = 1 ∨ t1 = 2) with e | e | e
 all_goals
  subst e
  go_enter Tryz.func187, Tryz.ntmps187
  go_wp2
  go_ret
  exact ⟨rfl, (Below.refl _ w).alloc (Nat.le_refl _) _⟩
set_option maxRecDepth 100000 in
set_option maxHeartbeats 800000 in
theorem turns_some (t0 : Nat) (t1 t2 t3 : Int) (w : World) (hk : 3 ≤ t1 ∧ t1 ≤ 6) (hlo : -9999999 ≤ t2 ∧ t2 ≤ 9999999) (hhi : -9999999 ≤ t3 ∧ t3 ≤ 9999999) :
  Calls Tryz.prog 187 #[.agg #[.int .i64 (t0 : Int), .int .i64 t1, .int .i64 t2, .int .i64 t3]] w fun e w' => e = .returned (.slice (some ⟨w.heap.size + 1, 0, none⟩) (turnsP ⟨t0, t1, t2, t3⟩).length (turnsP ⟨t0, t1, t2, t3⟩).length) ∧ Below w.heap.size w w' ∧ w'.heap[w.heap.size + 1]? = some (.cells (ints (turnsP ⟨t0, t1, t2, t3⟩)).toArray 3) := by
 have hlast : ∀ (o o' : Obj), ((w.alloc o).alloc o').heap[w.heap.size + 1]? = some o' := fun o o' => by
  have := alloc_last (w.alloc o) o'
  simpa using this
 rcases (by omega : t1 = 3 ∨ t1 = 4 ∨ t1 = 5 ∨ t1 = 6) with e | e | e | e
 all_goals
  subst e
  go_enter Tryz.func187, Tryz.ntmps187
  go_wp2
  go_ret
  exact ⟨rfl, ((Below.refl _ w).alloc (Nat.le_refl _) _).alloc (by simp) _, hlast _ _⟩
end Go.Proofs.YthnggjaecngbiaaGreatDoor
namespace Go.Proofs.YthnggjaecngbiaaGreatDoor
open Go.RowKit
theorem mapints (l : List Int) : l.map (Value.int .i64) = ints l := rfl
set_option maxRecDepth 100000 in
theorem toomuch_any (n : Int) (w : World) : FnGives Tryz.prog 189 #[] #[.int .i64 n] (.bool (decide (1000000 < n))) w := by
 show Calls Tryz.prog 189 #[.int .i64 n] w _
 go_enter Tryz.func189, Tryz.ntmps189
 go_wp2
 all_goals (go_ret; exact ⟨by simp_all, 0, rfl⟩)
def Kept (base g cap : Nat) (l : List Int) (w : World) (e : Ending) (v : Value) (w' : World) : Prop :=
 e = .returned v ∧ w'.ownsRow base 3 1 (.slice (some ⟨g, 0, none⟩) l.length cap) l.length (ints l) ∧ Below base w w'
theorem delete_any (base g cap : Nat) (l : List Int) (w : World) (h : w.ownsRow base 3 1 (.slice (some ⟨g, 0, none⟩) l.length cap) l.length (ints l)) :
  Calls Tryz.prog 188 #[.slice (some ⟨g, 0, none⟩) l.length cap, .func (.func 189) #[] #[]] w fun e w' => Kept base g cap (l.filter fun n => !decide (1000000 < n)) w e (.slice (some ⟨g, 0, none⟩) (l.filter fun n => !decide (1000000 < n)).length cap) w' := by
 obtain ⟨g', cap', hv, hb, hlt, hn, hm, hl, hH⟩ := Lib.holds_of_ownsRow (enc := Value.int .i64) (zs := l) h (by simp)
 simp only [Value.slice.injEq, Option.some.injEq, Addr.mk.injEq, and_true, true_and] at hv
 obtain ⟨rfl, rfl⟩ := hv
 have eg : ∀ args w, (callFunc 189 args).run Tryz.prog w = .ok (.enter 189 args) w := enters_of Tryz.func189 (by kernel_rfl) rfl
 have hsz : l.length ≤ 9223372036854775807 := Nat.le_trans hn (Nat.le_trans hm (by decide))
 have hcon := Tryz.slices_DeleteFunc (Value.int .i64) (fun _ => rfl) (fun x => decide (1000000 < x)) 189 #[] eg 0 Tryz.zeroValue3 g 0 cap l.toArray w (fun W x _ => toomuch_any x W) (fun _ _ _ x _ => toomuch_any x _) hH (by simpa using hsz) (by simpa using hn)
 have hlen : (l.filter fun n => !decide (1000000 < n)).length ≤ l.length := List.length_filter_le _ _
 refine Calls.mono hcon ?_
 rintro e w' ⟨rfl, q, rfl⟩
 refine ⟨rfl, ?_, Lib.below_putRow (Below.refl _ _) hb⟩
 have := Lib.ownsRow_putRow (enc := Value.int .i64) (q := q) (k := (l.filter fun n => !decide (1000000 < n)).length) (zs := l) (ys := (l.filter fun n => !decide (1000000 < n)) ++ List.replicate (l.length - (l.filter fun n => !decide (1000000 < n)).length) 0) h (by simp; omega) hlen
 rw [List.take_left'  rfl] at this
 simpa [ints] using this
theorem sort_any (base g cap : Nat) (l : List Int) (w : World) (hl8 : l.length ≤ 1000) (h : w.ownsRow base 3 1 (.slice (some ⟨g, 0, none⟩) l.length cap) l.length (ints l)) :
  Calls Tryz.prog 190 #[.slice (some ⟨g, 0, none⟩) l.length cap] w fun e w' => Kept base g cap (l.mergeSort fun x y => decide (x ≤ y)) w e (.tuple #[]) w' := by
 obtain ⟨g', cap', hv, hb, hlt, hn, hm, hl, hH⟩ := Lib.holds_of_ownsRow (enc := Value.int .i64) (zs := l) h (by simp)
 simp only [Value.slice.injEq, Option.some.injEq, Addr.mk.injEq, and_true, true_and] at hv
 obtain ⟨rfl, rfl⟩ := hv
 have hcon := Tryz.slices_Sort_int g 0 cap l w hH hlt (by omega)
 refine Calls.mono hcon ?_
 rintro e w' ⟨rfl, q, os, rfl⟩
 have hg := grownBy_sortedI (w := w) (g := g) (n := q) (os := os) (l.mergeSort fun x y => decide (x ≤ y)).toArray
 refine ⟨rfl, ?_, ⟨hg.os, hg.tape, hg.output, hg.size, fun k hk => hg.block k (by omega) (by simp; omega)⟩⟩
 rcases h.2 with ⟨h0, _⟩ | ⟨g2, c2, cur, hv2, _, hgc, _, _, hcs, _⟩
 ·cases h0
 ·simp only [Value.slice.injEq, Option.some.injEq, Addr.mk.injEq, and_true, true_and] at hv2
  obtain ⟨rfl, rfl⟩ := hv2
  have := ownsRow_sortedI (n := q) (os := os) (ss := l) (ts := l.mergeSort fun x y => decide (x ≤ y)) (by simp) hb hgc hn hm hcs
  simpa [ints] using this
theorem compactI_any (base g cap : Nat) (l : List Int) (w : World) (h : w.ownsRow base 3 1 (.slice (some ⟨g, 0, none⟩) l.length cap) l.length (ints l)) :
  Calls Tryz.prog 191 #[.slice (some ⟨g, 0, none⟩) l.length cap] w fun e w' => Kept base g cap (Lib.compact l) w e (.slice (some ⟨g, 0, none⟩) (Lib.compact l).length cap) w' := by
 obtain ⟨g', cap', hv, hb, hlt, hn, hm, hl, hH⟩ := Lib.holds_of_ownsRow (enc := Value.int .i64) (zs := l) h (by simp)
 simp only [Value.slice.injEq, Option.some.injEq, Addr.mk.injEq, and_true, true_and] at hv
 obtain ⟨rfl, rfl⟩ := hv
 have hsz : l.length ≤ 9223372036854775807 := Nat.le_trans hn (Nat.le_trans hm (by decide))
 have hcon := Tryz.slices_Compact_int g 0 cap l w hH hsz hn
 refine Calls.mono hcon ?_
 rintro e w' ⟨rfl, q, rfl⟩
 refine ⟨rfl, ?_, Lib.below_putRow (Below.refl _ _) hb⟩
 have hcl := Lib.compact_length_le l
 have := Lib.ownsRow_putRow (enc := Value.int .i64) (q := q) (k := (Lib.compact l).length) (zs := l) (ys := Lib.compact l ++ List.replicate (l.length - (Lib.compact l).length) 0) h (by simp; omega) hcl
 rw [List.take_left' rfl] at this
 simpa [ints] using this
end Go.Proofs.YthnggjaecngbiaaGreatDoor
namespace Go.Proofs.YthnggjaecngbiaaGreatDoor
open Go.RowKit
theorem wpList_append_zero {P : Program} {w : World} {ops : Array Oper} {rest : List Oper} {o : Oper} {a : Act} {Q : Exit → Act → World → Prop} (hgd : o.guard = none) (s x : Operand) (t : TypeId)
  (ho : o.op = .call { callee := .builtin .append, args := #[s, x], argTypes := #[t, t] }) (e : TypeId) (i : TypeInfo) (ht : P.underlying t = some (.slice e)) (hi : P.info? e = some i)
  (ao : Option Addr) (n cap : Nat) (hc : n ≤ cap) (bo : Option Addr) (m c : Nat) (hm : m = 0) (hs : a.eval s = .slice ao n cap) (hx : a.eval x = .slice bo m c) (h : wpList P ops Q rest (a.put o.dst (.slice ao n cap)) w) : wpList P ops Q (o :: rest) a w := by
 subst hm
 refine wpList_plain hgd fun K hK => ?_
 have hr : (Builtin.append_ #[t, t] o.type #[.slice ao n cap, .slice bo 0 c]).run P w = .ok (.slice ao n cap) w := by
  cases ao <;> cases bo <;> simp [Builtin.append_, run_underlying ht, sizeOf, typeInfo, hi, Builtin.lenOf, Builtin.firstCells, loadCells, loadCellsFrom, hc, storeCells]
 unfold Oper.wp execOp
 simp only [ho, resolve, invoke, builtin, Sem.run_bind, Sem.run_pure, Result.andThen_ok, List.map_toArray, List.map_cons, List.map_nil, hs, hx, hr]
 exact hK _ _ h
theorem owns_cap {w : World} {base : Nat} {e : TypeId} {size : Nat} {ao : Option Addr} {k cap n : Nat} {xs : List Value} (h : w.ownsRow base e size (.slice ao k cap) n xs) : k ≤ cap := by
 rcases h.2 with ⟨h1, h2⟩ | ⟨g, c, cur, h1, _, _, h2, _⟩
 ·simp only [Value.slice.injEq] at h1
  omega
 ·simp only [Value.slice.injEq] at h1
  omega
end Go.Proofs.YthnggjaecngbiaaGreatDoor
