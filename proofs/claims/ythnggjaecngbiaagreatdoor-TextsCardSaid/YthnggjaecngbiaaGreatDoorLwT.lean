import Derived.Test.YthnggjaecngbiaaGreatDoorRfQ
namespace Go.Proofs.YthnggjaecngbiaaGreatDoor
open Go.RowKit
def Idle (b : Nat) (w : World) : Prop := w.heap[b]? = some (.cells #[.slice none 0 0, .slice none 0 0, .slice none 0 0, .slice none 0 0, .slice none 0 0, .slice none 0 0] 79)
theorem Idle.below {b : Nat} {w w' : World} (h : Idle b w) (g : Below w.heap.size w w') : Idle b w' := (g.block b (lt_of_block h)).trans h
theorem cells5 {w : World} {N : Nat} {c0 c1 c2 c3 c4 : Value} {T : TypeId} (h : w.heap[N]? = some (.cells #[c0, c1, c2, c3, c4] T)) :
  (w.cell? ⟨N, 0, none⟩ = some c0 ∧ w.cell? ⟨N, 1, none⟩ = some c1 ∧ w.cell? ⟨N, 2, none⟩ = some c2 ∧ w.cell? ⟨N, 3, none⟩ = some c3 ∧ w.cell? ⟨N, 4, none⟩ = some c4) ∧
  w.frozen? ⟨N, 0, none⟩ = false ∧ w.frozen? ⟨N, 1, none⟩ = false ∧ w.frozen? ⟨N, 2, none⟩ = false ∧ w.frozen? ⟨N, 3, none⟩ = false ∧ w.frozen? ⟨N, 4, none⟩ = false := by
 simp [World.cell?, World.frozen?, h]
theorem num_any (n : Int) (w : World) : Calls Tryz.prog 54 #[.int .i64 n] w fun e w' => e = .returned (.int .i64 n) ∧ w' = w := by
 go_enter Tryz.func54, Tryz.ntmps54
 go_wp2
 go_ret
 exact ⟨rfl, rfl⟩
set_option maxRecDepth 100000 in
set_option maxHeartbeats 1600000 in
theorem looks_any (b : Nat) (w : World) (h : Idle b w) : Calls Tryz.prog 34 #[.pointer (some ⟨b, 0, none⟩)] w fun e w' => e = .returned (.bool true) ∧ w' = w := by
 obtain ⟨⟨c0, c1, c2, c3, c4, c5⟩, f0, f1, f2, f3, f4, f5⟩ := cells6 h
 have hb := lt_of_block h
 clear h
 go_enter Tryz.func34, Tryz.ntmps34
 go_wp2_with fail
 go_loopg [3] 0 (fun _ i wr => i = .int .i64 0 ∧ wr = w)
 case atStart => exact ⟨rfl, rfl⟩
 case round =>
  obtain ⟨rfl, rfl⟩ := hrel
  go_wp2_with fail
  go_loopg [5] 0 (fun _ i wx => i = .int .i64 0 ∧ wx = wr)
  case atStart => exact ⟨rfl, rfl⟩
  case round =>
   obtain ⟨rfl, rfl⟩ := hrel
   go_wp2_with fail
   go_loopg [8] 0 (fun _ i wx => i = .int .i64 0 ∧ wx = wr)
   case atStart => exact ⟨rfl, rfl⟩
   case round =>
    obtain ⟨rfl, rfl⟩ := hrel
    go_wp2_with fail
    go_ret
    exact ⟨rfl, rfl⟩
set_option maxRecDepth 100000 in
set_option maxHeartbeats 1600000 in
theorem step_any (b : Nat) (k p c : Int) (s : ByteArray) (vo : Option Addr) (vn vc : Nat) (w : World) (h : Idle b w) (hk : k ≤ 1) (hs : s.size ≤ maxLen) (ht : Tab w) :
  Calls Tryz.prog 33 #[.pointer (some ⟨b, 0, none⟩), .agg #[.int .i64 k, .int .i64 p, .string s, .int .i64 c, .slice vo vn vc]] w fun e w' => e = .returned (.bool true) ∧ Below w.heap.size w w' := by
 by_cases h1 : k = 1
 ·subst h1
  have hb0 : Below w.heap.size w (w.alloc (.cells #[.int .i64 1, .int .i64 p, .string s, .int .i64 c, .slice vo vn vc] 82)) := (Below.refl _ w).alloc (Nat.le_refl _) _
  have HT0 := hide (tab_below hb0 ht)
  have HB0 := hide hb0
  have HM := hide hs
  clear hb0 ht hk hs
  go_enter Tryz.func33, Tryz.ntmps33
  go_wp2_with fail
  refine (plain_any s _ (uh HM) (uh HT0)).mono ?_
  rintro e w1 ⟨rfl, hb1⟩
  have hr1 := (hb1.block w.heap.size (by simp)).trans (alloc_last w _)
  obtain ⟨⟨k0, k1, k2, k3, k4⟩, -⟩ := cells5 hr1
  have HB1 := hide (below_after (uh HB0) hb1)
  clear hb1 hr1
  obtain ⟨r0, r1, r2, hr⟩ : ∃ r0 r1 r2, plainR s = (r0, r1, r2) := ⟨_, _, _, rfl⟩
  have HR := hide hr
  rw [hr]
  clear hr
  simp only
  go_wp2_with fail
  refine (rplain_any s _).mono ?_
  rintro e w2 ⟨rfl, hb2⟩
  rw [uh HR]
  simp only
  have HB2 := hide (below_after (uh HB1) hb2)
  clear hb2 k0 k1 k2 k3 k4
  go_wp2_with fail
  refine (num_any r2 _).mono ?_
  rintro e w3 ⟨rfl, rfl⟩
  go_wp2_with fail
  refine (num_any r2 _).mono ?_
  rintro e w3 ⟨rfl, rfl⟩
  go_wp2_with fail
  go_ret
  exact ⟨rfl, uh HB2⟩
 ·have e1 : (k == 1) = false := by rw [beq_eq_false_iff_ne]; exact h1
  have e2 : (k == 2) = false := by rw [beq_eq_false_iff_ne]; omega
  obtain ⟨⟨c0, c1, c2, c3, c4, c5⟩, f0, f1, f2, f3, f4, f5⟩ := cells6 h
  have hb := lt_of_block h
  go_enter Tryz.func33, Tryz.ntmps33
  go_wp2_with fail
  go_ret
  exact ⟨rfl, (Below.refl _ w).alloc (Nat.le_refl _) _⟩
structure OpD where
 k : Int
 p : Int
 s : ByteArray
 c : Int
 vo : Option Addr
 vn : Nat
 vc : Nat
def OpsV (w : World) (v : Value) (ops : List OpD) : Prop :=
 (ops = [] ∧ ∃ ao cap, v = .slice ao 0 cap) ∨ ∃ g off cap, v = .slice (some ⟨g, off, none⟩) ops.length cap ∧ ops.length ≤ cap ∧ cap ≤ maxLen ∧ g < w.heap.size ∧
  ∀ j o, ops[j]? = some o → w.cell? ⟨g, off + j * 5, none⟩ = some (.int .i64 o.k) ∧ w.cell? ⟨g, off + j * 5 + 1, none⟩ = some (.int .i64 o.p) ∧ w.cell? ⟨g, off + j * 5 + 2, none⟩ = some (.string o.s) ∧ w.cell? ⟨g, off + j * 5 + 3, none⟩ = some (.int .i64 o.c) ∧ w.cell? ⟨g, off + j * 5 + 4, none⟩ = some (.slice o.vo o.vn o.vc)
theorem OpsV.form {w : World} {v : Value} {ops : List OpD} (h : OpsV w v ops) : ∃ ao cap, v = .slice ao ops.length cap := by
 rcases h with ⟨rfl, ao, cap, rfl⟩ | ⟨g, off, cap, rfl, _⟩
 ·exact ⟨ao, cap, rfl⟩
 ·exact ⟨_, _, rfl⟩
set_option maxRecDepth 100000 in
set_option maxHeartbeats 1600000 in
theorem played_any (v : Value) (ops : List OpD) (w : World) (hv : OpsV w v ops) (hs : ∀ o ∈ ops, o.s.size ≤ maxLen) (ht : Tab w) :
  Calls Tryz.prog 11 #[v, .int .i64 1] w fun e w' => e = .returned (.bool true) ∧ Below w.heap.size w w' := by
 obtain ⟨ao, cap, rfl⟩ := hv.form
 have HV := hide hv
 have HS := hide hs
 have HT := hide ht
 have hb0 : Below w.heap.size w (w.alloc (.cells #[.slice none 0 0, .slice none 0 0, .slice none 0 0, .slice none 0 0, .slice none 0 0, .slice none 0 0] 79)) := (Below.refl _ w).alloc (Nat.le_refl _) _
 have HI0 : Hid (Idle w.heap.size (w.alloc (.cells #[.slice none 0 0, .slice none 0 0, .slice none 0 0, .slice none 0 0, .slice none 0 0, .slice none 0 0] 79))) := hide (alloc_last w _)
 have HT0 := hide (tab_below hb0 ht)
 have HB0 := hide hb0
 clear hv hs ht hb0
 go_enter Tryz.func11, Tryz.ntmps11
 go_wp2_with fail
 refine (step_any w.heap.size 1 0 0 _ none 0 0 _ (uh HI0) (by omega) (by unfold maxLen; exact Nat.le_trans (m := 1000) (by decide) (by decide)) (uh HT0)).mono ?_
 rintro e w1 ⟨rfl, hb1⟩
 have HI1 := hide ((uh HI0).below hb1)
 have HB1 := hide (below_after (uh HB0) hb1)
 clear hb1
 go_wp2_with fail
 go_loopg [7, 8] ops.length (fun g ok i wr => ∃ j : Nat, j ≤ ops.length ∧ g = ops.length - j ∧ i = .int .i64 (j : Int) ∧ ok = .bool true ∧ Idle w.heap.size wr ∧ Below w.heap.size w wr)
 case atStart => exact ⟨0, by omega, rfl, rfl, rfl, uh HI1, uh HB1⟩
 case round =>
  obtain ⟨j, hj, hg, rfl, rfl, hi, hb⟩ := hrel
  have A : Aside (gk = ops.length - j ∧ Idle w.heap.size wr ∧ Below w.heap.size w wr) := ⟨hg, hi, hb⟩
  clear hg hi HI0 HB0 HT0 HI1 HB1
  by_cases hlt : j < ops.length
  ·rcases uh HV with ⟨h0, _⟩ | ⟨g, off, cap', hv, hc, hmx, hgl, hxx⟩
   ·rw [h0] at hlt; simp at hlt
   simp only [Value.slice.injEq] at hv
   obtain ⟨rfl, _, rfl⟩ := hv
   obtain ⟨q0, q1, q2, q3, q4⟩ := hxx j ops[j] (List.getElem?_eq_getElem hlt)
   have k0 := (hb.cell (p := ⟨g, off + j * 5, none⟩) hgl).trans q0
   have k1 := (hb.cell (p := ⟨g, off + j * 5 + 1, none⟩) hgl).trans q1
   have k2 := (hb.cell (p := ⟨g, off + j * 5 + 2, none⟩) hgl).trans q2
   have k3 := (hb.cell (p := ⟨g, off + j * 5 + 3, none⟩) hgl).trans q3
   have k4 := (hb.cell (p := ⟨g, off + j * 5 + 4, none⟩) hgl).trans q4
   clear q0 q1 q2 q3 q4
   have hos := HS.out ops[j] (List.getElem_mem hlt)
   have hjc : (j : Int) < ops.length := by omega
   have hjd : decide ((j : Int) < ops.length) = true := by simp; omega
   have hjcap : (j : Int) < cap := by omega
   have hcapm : (cap : Int) ≤ 9223372036854775807 := by unfold maxLen at hmx; omega
   generalize ops[j] = o at *
   obtain ⟨k, p, s, c, vo, vn, vc⟩ := o
   simp only at k0 k1 k2 k3 k4 hos
   have HOS := hide hos
   clear hxx hb hc hmx hgl hos
   by_cases hk : k ≤ 1
   ·go_wp2_with fail
    refine (step_any w.heap.size k p c s vo vn vc _ A.out.2.1 hk (uh HOS) (tab_below A.out.2.2 (uh HT))).mono ?_
    rintro e w2 ⟨rfl, hb2⟩
    have HI2 := hide (A.out.2.1.below hb2)
    have HB2 := hide (below_after A.out.2.2 hb2)
    clear hb2 k0 k1 k2 k3 k4
    go_wp2_with fail
    refine (looks_any w.heap.size _ (uh HI2)).mono ?_
    rintro e w3 ⟨rfl, rfl⟩
    go_wp2_with fail
    go_roundg (ops.length - (j + 1))
    case measure => have := A.out.1; omega
    case rel => exact ⟨j + 1, by omega, rfl, by go_num, rfl, uh HI2, uh HB2⟩
   ·go_wp2_with fail
    refine (looks_any w.heap.size _ A.out.2.1).mono ?_
    rintro e w3 ⟨rfl, rfl⟩
    go_wp2_with fail
    go_roundg (ops.length - (j + 1))
    case measure => have := A.out.1; omega
    case rel => exact ⟨j + 1, by omega, rfl, by go_num, rfl, A.out.2.1, A.out.2.2⟩
  ·have hjc : ¬ (j : Int) < ops.length := by omega
   have hjd : decide ((j : Int) < ops.length) = false := by simp; omega
   clear hb
   go_wp2_with fail
   go_ret
   exact ⟨rfl, A.out.2.2⟩
theorem texts_any (v : Value) (ops : List OpD) (w : World) (hv : OpsV w v ops) (hs : ∀ o ∈ ops, o.s.size ≤ maxLen) (ht : Tab w) :
  Calls Tryz.prog 3 #[v] w fun e w' => e = .returned (.bool true) ∧ Below w.heap.size w w' := by
 obtain ⟨ao, cap, rfl⟩ := hv.form
 have HV := hide hv
 have HS := hide hs
 have HT := hide ht
 clear hv hs ht
 go_enter Tryz.func3, Tryz.ntmps3
 go_wp2_with fail
 refine (played_any _ ops _ (uh HV) (uh HS) (uh HT)).mono ?_
 rintro e w1 ⟨rfl, hb⟩
 have HB := hide hb
 clear hb
 go_wp2_with fail
 go_ret
 exact ⟨rfl, uh HB⟩
end Go.Proofs.YthnggjaecngbiaaGreatDoor
