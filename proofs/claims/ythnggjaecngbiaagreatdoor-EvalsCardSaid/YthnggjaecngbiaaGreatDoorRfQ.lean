import Derived.Test.YthnggjaecngbiaaGreatDoorRfP
import Derived.Test.YthnggjaecngbiaaGreatDoorLgF
import Derived.Test.YthnggjaecngbiaaGreatDoorRgI
namespace Go.Proofs.YthnggjaecngbiaaGreatDoor
open Go.RowKit
theorem ritem_any (x : LItem) (w : World) (hx : RItemV w x) (hw : WfI x.it) (hp : PolI x.it) :
  Calls Tryz.prog 77 #[.agg (ricells x.it x.cv x.rv)] w fun e w' => e = .returned (.string ⟨(itemOut x.it).toArray⟩) ∧ Below w.heap.size w w' := by
 obtain ⟨it, cv, rv0, vs⟩ := x
 obtain ⟨co, cc, hcv⟩ := hx.2.1.form
 obtain ⟨ro, rc, hrv⟩ := hx.2.2.1.form
 simp only at hcv hrv hw hp
 subst hcv hrv
 rcases hp with ⟨hT, hpol⟩ | ⟨hT, hpol⟩
 ·exact ritem_table it co ro cc rc vs w hx hw hT hpol
 ·exact ritem_in it co ro cc rc w hw hT hpol
theorem parse_plain_inl {s : ByteArray} {n : Nat} {en : Int} (h : parseR s = .inl (n, en)) : plainR s = ([], n, en) := by
 unfold parseR at h
 unfold plainR
 split at h
 ·rename_i hs
  rw [if_pos hs]
  simp only [Sum.inl.injEq, Prod.mk.injEq] at h
  rw [← h.1, ← h.2]
 ·rename_i hs
  rw [if_neg hs]
  split at h
  ·rename_i p hp
   simp only [Sum.inl.injEq, Prod.mk.injEq] at h
   rw [hp, ← h.1, ← h.2]
  ·rename_i its hp
   split at h
   ·cases h
   ·rename_i hc
    simp only [Sum.inl.injEq] at h
    rw [hp]
    simp only
    rw [if_neg hc, h]
theorem parse_plain_inr {s : ByteArray} {its : List PItem} (h : parseR s = .inr its) : plainR s = (planOut its, its.length, 0) ∧ planR s = .inr its ∧ s.size ≤ 1000 := by
 unfold parseR at h
 unfold plainR
 split at h
 ·cases h
 ·rename_i hs
  rw [if_neg hs]
  split at h
  ·cases h
  ·rename_i its' hp
   split at h
   ·rename_i hc
    simp only [Sum.inr.injEq] at h
    subst h
    rw [hp]
    simp only
    rw [if_pos hc]
    exact ⟨rfl, by trivial, by omega⟩
   ·cases h
set_option maxRecDepth 100000 in
set_option maxHeartbeats 1600000 in
theorem rplain_any (s : ByteArray) (w : World) :
  Calls Tryz.prog 53 #[.string s] w fun e w' => e = .returned (.tuple #[.string ⟨(plainR s).1.toArray⟩, .int .i64 ((plainR s).2.1 : Int), .int .i64 (plainR s).2.2]) ∧ Below w.heap.size w w' := by
 go_enter Tryz.func53, Tryz.ntmps53
 go_wp2_with fail
 refine (rparse_any s _).mono ?_
 rintro e w1 (⟨n, en, hp, rfl, hb1⟩ | ⟨xs, v, hp, rfl, hb1, bs, hva⟩)
 ·have HF := hide (parse_plain_inl hp)
  have HB := hide hb1
  clear hp hb1
  go_wp2_with fail
  go_loopg [8, 9] 0 (fun _ sv i wr => sv = .string ⟨#[]⟩ ∧ i = .int .i64 0 ∧ wr = w1)
  case atStart => exact ⟨rfl, rfl, rfl⟩
  case round =>
   obtain ⟨rfl, rfl, rfl⟩ := hrel
   go_wp2_with fail
   go_ret3
   rw [uh HF]
   exact ⟨rfl, uh HB⟩
 ·obtain ⟨hpl, hpr, hs⟩ := parse_plain_inr hp
  have hv := RItemsV.of_at hva
  obtain ⟨ao, cap, rfl⟩ := hv.1.form
  have hwf := planR_wf hs hpr
  have HW : Hid (∀ x ∈ xs, WfI x.it) := hide (fun x hx => hwf.2 x.it (List.mem_map.2 ⟨x, hx, rfl⟩))
  have HPO : Hid (∀ x ∈ xs, PolI x.it) := hide (fun x hx => planR_pol hpr x.it (List.mem_map.2 ⟨x, hx, rfl⟩))
  have hl : xs.length ≤ 1000 := by have := hwf.1; simpa using this
  have HF := hide hpl
  have HB := hide hb1
  have HV := hide hv
  clear hp hb1 hv hva hpl hpr hwf
  go_wp2_with fail
  go_loopg [8, 9] xs.length (fun g sv i wr => ∃ (j : Nat) (d : ByteArray), j ≤ xs.length ∧ g = xs.length - j ∧ i = .int .i64 (j : Int) ∧ sv = .string d ∧ d.data.toList = planOut ((xs.take j).map LItem.it) ∧ Below w1.heap.size w1 wr)
  case atStart => exact ⟨0, ⟨#[]⟩, by omega, rfl, rfl, rfl, rfl, Below.refl _ _⟩
  case round =>
   obtain ⟨j, d, hj, hg, rfl, rfl, hd, hb⟩ := hrel
   have A : Aside (gk = xs.length - j ∧ d.data.toList = planOut ((xs.take j).map LItem.it) ∧ Below w1.heap.size w1 wr) := ⟨hg, hd, hb⟩
   have hds : d.size ≤ 1200000000000 := by
    have h1 := planOut_len ((xs.take j).map LItem.it) (fun i hi => by
     rw [List.mem_map] at hi
     obtain ⟨x, hx, rfl⟩ := hi
     exact HW.out x (List.mem_of_mem_take hx))
    have h2 : d.data.toList.length = d.size := by simp
    rw [← h2, hd]
    simp only [List.length_map, List.length_take] at h1
    omega
   clear hg hd
   by_cases hlt : j < xs.length
   ·rcases (uh HV).1 with ⟨h0, _⟩ | ⟨g, cap', hv, hc, hmx, hgl, hxx⟩
    ·omega
    simp only [Value.slice.injEq] at hv
    obtain ⟨rfl, _, rfl⟩ := hv
    have key : ∀ i, i < 6 → wr.cell? ⟨g, j * 6 + i, none⟩ = (ritCells xs[j])[i]? := fun i hi => by
     rw [hb.cell (p := ⟨g, j * 6 + i, none⟩) hgl, hxx _ (by omega)]
     exact flat_at ritCells 6 (fun _ => rfl) xs j i hlt hi
    have k0 := key 0 (by omega)
    have k1 := key 1 (by omega)
    have k2 := key 2 (by omega)
    have k3 := key 3 (by omega)
    have k4 := key 4 (by omega)
    have k5 := key 5 (by omega)
    simp only [ritCells, ricells, List.getElem?_cons_zero, List.getElem?_cons_succ, Nat.add_zero] at k0 k1 k2 k3 k4 k5
    have hxi := ((uh HV).2 xs[j] (List.getElem_mem hlt)).below hb
    have hwx := HW.out xs[j] (List.getElem_mem hlt)
    have hpx := HPO.out xs[j] (List.getElem_mem hlt)
    have HT : Hid (planOut ((xs.take (j + 1)).map LItem.it) = planOut ((xs.take j).map LItem.it) ++ itemOut xs[j].it) := hide (by
     rw [List.take_succ_eq_append_getElem hlt, List.map_append]
     simp [planOut])
    have hjc : (j : Int) < xs.length := by omega
    have hjcap : (j : Int) < cap := by omega
    generalize xs[j] = x at *
    obtain ⟨co, cc, hcv⟩ := hxi.2.1.form
    obtain ⟨ro, rc, hrv⟩ := hxi.2.2.1.form
    obtain ⟨it, cv, rv0, vs⟩ := x
    simp only at k0 k1 k2 k3 k4 k5 hcv hrv HT hwx hpx
    subst hcv hrv
    have hol := itemOut_len hwx
    obtain ⟨d4, hd4⟩ : ∃ d : ByteArray, (⟨(itemOut it).toArray⟩ : ByteArray) = d := ⟨_, rfl⟩
    have hs4 : d4.size ≤ 1200000000 := by rw [← hd4]; show (itemOut it).toArray.size ≤ 1200000000; rw [List.size_toArray]; exact hol
    have HD4 : Hid (d4.data.toList = itemOut it) := hide (by rw [← hd4])
    have E4 := hide hd4
    have HXI := hide hxi
    have HWX := hide hwx
    have HPX := hide hpx
    clear key hxx hb hc hmx hgl hxi hwx hpx hd4 hol
    go_wp2_with fail
    refine (ritem_any ⟨it, .slice co it.cols.length cc, .slice ro it.rules.length rc, vs⟩ _ (uh HXI) (uh HWX) (uh HPX)).mono ?_
    rintro e w5 ⟨rfl, hb5⟩
    rw [uh E4]
    have HB5 := hide (below_after A.out.2.2 hb5)
    clear hb5
    go_wp2_with fail
    go_roundg (xs.length - (j + 1))
    case measure => have := A.out.1; omega
    case rel =>
     refine ⟨j + 1, _, by omega, rfl, by go_num, rfl, ?_, uh HB5⟩
     rw [uh HT]
     simp [A.out.2.1, uh HD4]
   ·have hje : j = xs.length := by omega
    have HC : Hid (d.data.toList = planOut (xs.map LItem.it)) := hide (by have := A.out.2.1; rw [hje, List.take_length] at this; exact this)
    have hjc : ¬ (j : Int) < xs.length := by omega
    have HB4 := hide hb
    clear hje hb
    go_wp2_with fail
    go_ret3
    rw [uh HF]
    refine ⟨?_, below_after (uh HB) (uh HB4)⟩
    simp only
    rw [← uh HC]
    simp
end Go.Proofs.YthnggjaecngbiaaGreatDoor
namespace Go.Proofs.YthnggjaecngbiaaGreatDoor
open Go.RowKit
def Idle (b : Nat) (w : World) : Prop := w.heap[b]? = some (.cells #[.slice none 0 0, .slice none 0 0, .slice none 0 0, .slice none 0 0, .slice none 0 0, .slice none 0 0] 79)
theorem Idle.below {b : Nat} {w w' : World} (h : Idle b w) (g : Below w.heap.size w w') : Idle b w' := (g.block b (lt_of_block h)).trans h
theorem cells5 {w : World} {N : Nat} {c0 c1 c2 c3 c4 : Value} {T : TypeId} (h : w.heap[N]? = some (.cells #[c0, c1, c2, c3, c4] T)) :
  (w.cell? ⟨N, 0, none⟩ = some c0 ∧ w.cell? ⟨N, 1, none⟩ = some c1 ∧ w.cell? ⟨N, 2, none⟩ = some c2 ∧ w.cell? ⟨N, 3, none⟩ = some c3 ∧ w.cell? ⟨N, 4, none⟩ = some c4) ∧
  w.frozen? ⟨N, 0, none⟩ = false ∧ w.frozen? ⟨N, 1, none⟩ = false ∧ w.frozen? ⟨N, 2, none⟩ = false ∧ w.frozen? ⟨N, 3, none⟩ = false ∧ w.frozen? ⟨N, 4, none⟩ = false := by
 simp [World.cell?, World.frozen?, h]
theorem num_any (n : Int) (w : World) : Calls Tryz.prog 54 #[.int .i64 n] w fun e w' => e = .returned (.int .i64 n) ∧ w' = w := by
 go_enter Tryz.func54, Tryz.ntmps54
 go_wp2
 go_ret
 exact ⟨rfl, rfl⟩
set_option maxRecDepth 100000 in
set_option maxHeartbeats 1600000 in
theorem looks_any (b : Nat) (w : World) (h : Idle b w) : Calls Tryz.prog 34 #[.pointer (some ⟨b, 0, none⟩)] w fun e w' => e = .returned (.bool true) ∧ w' = w := by
 obtain ⟨⟨c0, c1, c2, c3, c4, c5⟩, f0, f1, f2, f3, f4, f5⟩ := cells6 h
 have hb := lt_of_block h
 clear h
 go_enter Tryz.func34, Tryz.ntmps34
 go_wp2_with fail
 go_loopg [3] 0 (fun _ i wr => i = .int .i64 0 ∧ wr = w)
 case atStart => exact ⟨rfl, rfl⟩
 case round =>
  obtain ⟨rfl, rfl⟩ := hrel
  go_wp2_with fail
  go_loopg [5] 0 (fun _ i wx => i = .int .i64 0 ∧ wx = wr)
  case atStart => exact ⟨rfl, rfl⟩
  case round =>
   obtain ⟨rfl, rfl⟩ := hrel
   go_wp2_with fail
   go_loopg [8] 0 (fun _ i wx => i = .int .i64 0 ∧ wx = wr)
   case atStart => exact ⟨rfl, rfl⟩
   case round =>
    obtain ⟨rfl, rfl⟩ := hrel
    go_wp2_with fail
    go_ret
    exact ⟨rfl, rfl⟩
set_option maxRecDepth 100000 in
set_option maxHeartbeats 1600000 in
theorem step_any (b : Nat) (k p c : Int) (s : ByteArray) (vo : Option Addr) (vn vc : Nat) (w : World) (h : Idle b w) (hk : k ≤ 1) (hs : s.size ≤ maxLen) (ht : Tab w) :
  Calls Tryz.prog 33 #[.pointer (some ⟨b, 0, none⟩), .agg #[.int .i64 k, .int .i64 p, .string s, .int .i64 c, .slice vo vn vc]] w fun e w' => e = .returned (.bool true) ∧ Below w.heap.size w w' := by
 by_cases h1 : k = 1
 ·subst h1
  have hb0 : Below w.heap.size w (w.alloc (.cells #[.int .i64 1, .int .i64 p, .string s, .int .i64 c, .slice vo vn vc] 82)) := (Below.refl _ w).alloc (Nat.le_refl _) _
  have HT0 := hide (tab_below hb0 ht)
  have HB0 := hide hb0
  have HM := hide hs
  clear hb0 ht hk hs
  go_enter Tryz.func33, Tryz.ntmps33
  go_wp2_with fail
  refine (plain_any s _ (uh HM) (uh HT0)).mono ?_
  rintro e w1 ⟨rfl, hb1⟩
  have hr1 := (hb1.block w.heap.size (by simp)).trans (alloc_last w _)
  obtain ⟨⟨k0, k1, k2, k3, k4⟩, -⟩ := cells5 hr1
  have HB1 := hide (below_after (uh HB0) hb1)
  clear hb1 hr1
  obtain ⟨r0, r1, r2, hr⟩ : ∃ r0 r1 r2, plainR s = (r0, r1, r2) := ⟨_, _, _, rfl⟩
  have HR := hide hr
  rw [hr]
  clear hr
  simp only
  go_wp2_with fail
  refine (rplain_any s _).mono ?_
  rintro e w2 ⟨rfl, hb2⟩
  rw [uh HR]
  simp only
  have HB2 := hide (below_after (uh HB1) hb2)
  clear hb2 k0 k1 k2 k3 k4
  go_wp2_with fail
  refine (num_any r2 _).mono ?_
  rintro e w3 ⟨rfl, rfl⟩
  go_wp2_with fail
  refine (num_any r2 _).mono ?_
  rintro e w3 ⟨rfl, rfl⟩
  go_wp2_with fail
  go_ret
  exact ⟨rfl, uh HB2⟩
 ·have e1 : (k == 1) = false := by rw [beq_eq_false_iff_ne]; exact h1
  have e2 : (k == 2) = false := by rw [beq_eq_false_iff_ne]; omega
  obtain ⟨⟨c0, c1, c2, c3, c4, c5⟩, f0, f1, f2, f3, f4, f5⟩ := cells6 h
  have hb := lt_of_block h
  go_enter Tryz.func33, Tryz.ntmps33
  go_wp2_with fail
  go_ret
  exact ⟨rfl, (Below.refl _ w).alloc (Nat.le_refl _) _⟩
structure OpD where
 k : Int
 p : Int
 s : ByteArray
 c : Int
 vo : Option Addr
 vn : Nat
 vc : Nat
def OpsV (w : World) (v : Value) (ops : List OpD) : Prop :=
 (ops = [] ∧ ∃ ao cap, v = .slice ao 0 cap) ∨ ∃ g off cap, v = .slice (some ⟨g, off, none⟩) ops.length cap ∧ ops.length ≤ cap ∧ cap ≤ maxLen ∧ g < w.heap.size ∧
  ∀ j o, ops[j]? = some o → w.cell? ⟨g, off + j * 5, none⟩ = some (.int .i64 o.k) ∧ w.cell? ⟨g, off + j * 5 + 1, none⟩ = some (.int .i64 o.p) ∧ w.cell? ⟨g, off + j * 5 + 2, none⟩ = some (.string o.s) ∧ w.cell? ⟨g, off + j * 5 + 3, none⟩ = some (.int .i64 o.c) ∧ w.cell? ⟨g, off + j * 5 + 4, none⟩ = some (.slice o.vo o.vn o.vc)
theorem OpsV.form {w : World} {v : Value} {ops : List OpD} (h : OpsV w v ops) : ∃ ao cap, v = .slice ao ops.length cap := by
 rcases h with ⟨rfl, ao, cap, rfl⟩ | ⟨g, off, cap, rfl, _⟩
 ·exact ⟨ao, cap, rfl⟩
 ·exact ⟨_, _, rfl⟩
set_option maxRecDepth 100000 in
set_option maxHeartbeats 1600000 in
theorem played_any (v : Value) (ops : List OpD) (w : World) (hv : OpsV w v ops) (hs : ∀ o ∈ ops, o.s.size ≤ maxLen) (ht : Tab w) :
  Calls Tryz.prog 11 #[v, .int .i64 1] w fun e w' => e = .returned (.bool true) ∧ Below w.heap.size w w' := by
 obtain ⟨ao, cap, rfl⟩ := hv.form
 have HV := hide hv
 have HS := hide hs
 have HT := hide ht
 have hb0 : Below w.heap.size w (w.alloc (.cells #[.slice none 0 0, .slice none 0 0, .slice none 0 0, .slice none 0 0, .slice none 0 0, .slice none 0 0] 79)) := (Below.refl _ w).alloc (Nat.le_refl _) _
 have HI0 : Hid (Idle w.heap.size (w.alloc (.cells #[.slice none 0 0, .slice none 0 0, .slice none 0 0, .slice none 0 0, .slice none 0 0, .slice none 0 0] 79))) := hide (alloc_last w _)
 have HT0 := hide (tab_below hb0 ht)
 have HB0 := hide hb0
 clear hv hs ht hb0
 go_enter Tryz.func11, Tryz.ntmps11
 go_wp2_with fail
 refine (step_any w.heap.size 1 0 0 _ none 0 0 _ (uh HI0) (by omega) (by unfold maxLen; exact Nat.le_trans (m := 1000) (by decide) (by decide)) (uh HT0)).mono ?_
 rintro e w1 ⟨rfl, hb1⟩
 have HI1 := hide ((uh HI0).below hb1)
 have HB1 := hide (below_after (uh HB0) hb1)
 clear hb1
 go_wp2_with fail
 go_loopg [7, 8] ops.length (fun g ok i wr => ∃ j : Nat, j ≤ ops.length ∧ g = ops.length - j ∧ i = .int .i64 (j : Int) ∧ ok = .bool true ∧ Idle w.heap.size wr ∧ Below w.heap.size w wr)
 case atStart => exact ⟨0, by omega, rfl, rfl, rfl, uh HI1, uh HB1⟩
 case round =>
  obtain ⟨j, hj, hg, rfl, rfl, hi, hb⟩ := hrel
  have A : Aside (gk = ops.length - j ∧ Idle w.heap.size wr ∧ Below w.heap.size w wr) := ⟨hg, hi, hb⟩
  clear hg hi HI0 HB0 HT0 HI1 HB1
  by_cases hlt : j < ops.length
  ·rcases uh HV with ⟨h0, _⟩ | ⟨g, off, cap', hv, hc, hmx, hgl, hxx⟩
   ·rw [h0] at hlt; simp at hlt
   simp only [Value.slice.injEq] at hv
   obtain ⟨rfl, _, rfl⟩ := hv
   obtain ⟨q0, q1, q2, q3, q4⟩ := hxx j ops[j] (List.getElem?_eq_getElem hlt)
   have k0 := (hb.cell (p := ⟨g, off + j * 5, none⟩) hgl).trans q0
   have k1 := (hb.cell (p := ⟨g, off + j * 5 + 1, none⟩) hgl).trans q1
   have k2 := (hb.cell (p := ⟨g, off + j * 5 + 2, none⟩) hgl).trans q2
   have k3 := (hb.cell (p := ⟨g, off + j * 5 + 3, none⟩) hgl).trans q3
   have k4 := (hb.cell (p := ⟨g, off + j * 5 + 4, none⟩) hgl).trans q4
   clear q0 q1 q2 q3 q4
   have hos := HS.out ops[j] (List.getElem_mem hlt)
   have hjc : (j : Int) < ops.length := by omega
   have hjd : decide ((j : Int) < ops.length) = true := by simp; omega
   have hjcap : (j : Int) < cap := by omega
   have hcapm : (cap : Int) ≤ 9223372036854775807 := by unfold maxLen at hmx; omega
   generalize ops[j] = o at *
   obtain ⟨k, p, s, c, vo, vn, vc⟩ := o
   simp only at k0 k1 k2 k3 k4 hos
   have HOS := hide hos
   clear hxx hb hc hmx hgl hos
   by_cases hk : k ≤ 1
   ·go_wp2_with fail
    refine (step_any w.heap.size k p c s vo vn vc _ A.out.2.1 hk (uh HOS) (tab_below A.out.2.2 (uh HT))).mono ?_
    rintro e w2 ⟨rfl, hb2⟩
    have HI2 := hide (A.out.2.1.below hb2)
    have HB2 := hide (below_after A.out.2.2 hb2)
    clear hb2 k0 k1 k2 k3 k4
    go_wp2_with fail
    refine (looks_any w.heap.size _ (uh HI2)).mono ?_
    rintro e w3 ⟨rfl, rfl⟩
    go_wp2_with fail
    go_roundg (ops.length - (j + 1))
    case measure => have := A.out.1; omega
    case rel => exact ⟨j + 1, by omega, rfl, by go_num, rfl, uh HI2, uh HB2⟩
   ·go_wp2_with fail
    refine (looks_any w.heap.size _ A.out.2.1).mono ?_
    rintro e w3 ⟨rfl, rfl⟩
    go_wp2_with fail
    go_roundg (ops.length - (j + 1))
    case measure => have := A.out.1; omega
    case rel => exact ⟨j + 1, by omega, rfl, by go_num, rfl, A.out.2.1, A.out.2.2⟩
  ·have hjc : ¬ (j : Int) < ops.length := by omega
   have hjd : decide ((j : Int) < ops.length) = false := by simp; omega
   clear hb
   go_wp2_with fail
   go_ret
   exact ⟨rfl, A.out.2.2⟩
theorem texts_any (v : Value) (ops : List OpD) (w : World) (hv : OpsV w v ops) (hs : ∀ o ∈ ops, o.s.size ≤ maxLen) (ht : Tab w) :
  Calls Tryz.prog 3 #[v] w fun e w' => e = .returned (.bool true) ∧ Below w.heap.size w w' := by
 obtain ⟨ao, cap, rfl⟩ := hv.form
 have HV := hide hv
 have HS := hide hs
 have HT := hide ht
 clear hv hs ht
 go_enter Tryz.func3, Tryz.ntmps3
 go_wp2_with fail
 refine (played_any _ ops _ (uh HV) (uh HS) (uh HT)).mono ?_
 rintro e w1 ⟨rfl, hb⟩
 have HB := hide hb
 clear hb
 go_wp2_with fail
 go_ret
 exact ⟨rfl, uh HB⟩
end Go.Proofs.YthnggjaecngbiaaGreatDoor
namespace Go.Proofs.YthnggjaecngbiaaGreatDoor
open Go.RowKit
def evT (its : List PItem) (vals : List Int) : List PVal := if fitsP its vals = true then tabsP its vals else []
def evE (its : List PItem) (vals : List Int) : Int := if fitsP its vals = true then 0 else 7
theorem EvalOf.uni {its : List PItem} {vals : List Int} {w w' : World} {e : Ending} (h : EvalOf its vals w e w') : ∃ lo lc, e = .returned (.tuple #[.slice lo (evT its vals).length lc, .int .i64 (evE its vals)]) ∧ Below w.heap.size w w' ∧ w'.ownsRow w.heap.size 51 2 (.slice lo (evT its vals).length lc) (evT its vals).length ((evT its vals).flatMap vcells) := by
 rcases h with ⟨h1, h2, h3⟩ | ⟨h1, ao, cap, h2, h3, h4⟩
 ·have e1 : evT its vals = [] := by unfold evT; rw [h1]; rfl
  have e2 : evE its vals = 7 := by unfold evE; rw [h1]; rfl
  rw [e1, e2]
  exact ⟨none, 0, h2, h3, World.ownsRow_nil _ _ _ _⟩
 ·have e1 : evT its vals = tabsP its vals := by unfold evT; rw [h1]; rfl
  have e2 : evE its vals = 0 := by unfold evE; rw [h1]; rfl
  rw [e1, e2]
  exact ⟨ao, cap, h2, h3, h4⟩
theorem evT_len {its : List PItem} (ok : OkPlan its) (vals : List Int) : (evT its vals).length ≤ 12 := by
 unfold evT
 split
 ·have := tabsTo_len its (resP its vals) its.length
  have := ok.len
  unfold tabsP
  omega
 ·simp
theorem lent_sl {w : World} {base gb gc : Nat} {vals : List Int} (h : w.ownsRow base 3 1 (.slice (some ⟨gb, 0, none⟩) (vals.length + 8) gc) (vals.length + 8) (lentL vals 8)) : SlAt w 1 (.slice (some ⟨gb, 0, none⟩) vals.length gc) vals.length (ints vals) := by
 rcases SlAt.of_owns h with ⟨h0, _⟩ | ⟨g', c', hv, h1, h2, h3, h4⟩
 ·omega
 simp only [Value.slice.injEq, Option.some.injEq, Addr.mk.injEq, and_true, true_and] at hv
 obtain ⟨rfl, rfl⟩ := hv
 refine Or.inr ⟨gb, gc, rfl, by omega, h2, h3, fun j hj => ?_⟩
 rw [h4 j (by omega), lentL_in (by omega)]
 have : j < vals.length := by omega
 simp [ints, this]
set_option maxRecDepth 100000 in
set_option maxHeartbeats 3200000 in
theorem evals_any (g : Nat) (h : Hist) (gx gy : Nat) (its : List PItem) (vl : Value) (vals : List Int) (w : World) (k : LawAt w g h (fun _ => False)) (hp : (gx, gy, its) ∈ h.ps) (hv : InSl w vl vals)
  (hl : (vals.length + 8) * 8 ≤ 140737488355328) (hls : (h.ls.length + 1 + (h.ls.length + 1) / 4 + 192) * 24 ≤ 281474976710656) (hvs : (h.vs.length + 4 + (h.vs.length + 4) / 4 + 192) * 24 ≤ 281474976710656) :
  Calls Tryz.prog 58 #[.pointer (some ⟨g, 0, none⟩), .agg #[.pointer (some ⟨gx, 0, none⟩), .pointer (some ⟨gy, 0, none⟩)], vl] w fun e w' => e = .returned (.bool true) ∧ Below g w w' ∧ ∃ l1 l2, l1.length = 1 ∧ l2.length = 4 ∧ LawAt w' g { h with ls := h.ls ++ l1, vs := h.vs ++ l2 } (fun _ => False) := by
 have hgl := k.gt
 obtain ⟨hpx, hpy⟩ := k.still.ps _ hp
 simp only at hpx hpy
 have hok : OkPlan its := by obtain ⟨_, _, _, _, _, _, h6⟩ := hpx; exact h6
 have htl := evT_len hok vals
 obtain ⟨vo, vc, rfl⟩ := hv.form
 obtain ⟨w0, hw0⟩ : ∃ w0, w0 = w.alloc (.cells #[.pointer (some ⟨gx, 0, none⟩), .pointer (some ⟨gy, 0, none⟩)] 105) := ⟨_, rfl⟩
 have hb0 : Below w.heap.size w w0 := by rw [hw0]; exact (Below.refl _ w).alloc (Nat.le_refl _) _
 have HN0 : Hid (w0.heap[w.heap.size]? = some (.cells #[.pointer (some ⟨gx, 0, none⟩), .pointer (some ⟨gy, 0, none⟩)] 105)) := hide (by rw [hw0]; exact alloc_last w _)
 have HB0 := hide hb0
 have HK := hide k
 have HPX := hide hpx
 have HPY := hide hpy
 have HV := hide hv
 have HL := hide hl
 have HLS := hide hls
 have HVS := hide hvs
 have hvlen : vals.length ≤ 17592186044416 := by clear hls hvs; omega
 clear k hp hv hl hls hvs hpx hpy hok hb0
 go_enter Tryz.func58, Tryz.ntmps58
 go_wp2_with fail
 rw [← hw0]
 clear hw0
 refine (lend_any g _ vals _ ((uh HV).below (uh HB0)) (uh HL)).mono ?_
 rintro e w1 ⟨gb, gc, rfl, hb1, ho1⟩
 have HB1 := hide (below_after (uh HB0) hb1)
 have HO1 := hide ho1
 have hN1 := (hb1.block _ (lt_of_block (uh HN0))).trans (uh HN0)
 obtain ⟨⟨n0, n1⟩, -⟩ := box2 hN1
 have HN1 := hide hN1
 have hs1 := lt_of_block hN1
 have hgb : w0.heap.size ≤ gb ∧ gb < w1.heap.size := ho1.lt gb rfl
 have hgc : vals.length + 8 ≤ gc := by
  rcases ho1.2 with ⟨hv, _⟩ | ⟨g', c', cur, hv, _, _, h1, _⟩
  ·simp at hv
  ·simp only [Value.slice.injEq, true_and] at hv
   omega
 clear hb1 ho1 hN1
 have HCE : Hid (∀ w', Below w1.heap.size w1 w' → w'.cell? ⟨w.heap.size, 0, none⟩ = some (.pointer (some ⟨gx, 0, none⟩)) ∧ w'.cell? ⟨w.heap.size, 1, none⟩ = some (.pointer (some ⟨gy, 0, none⟩))) := hide (fun w' hb' => (box2 ((hb'.block _ hs1).trans (uh HN1))).1)
 have HSL := hide (lent_sl (uh HO1))
 have hcc : (vals.length : Int) ≤ gc := by omega
 go_wp2_with fail
 go_region_held3 (fun w' => w'.cell? ⟨w.heap.size, 0, none⟩ = some (.pointer (some ⟨gx, 0, none⟩)) ∧ w'.cell? ⟨w.heap.size, 1, none⟩ = some (.pointer (some ⟨gy, 0, none⟩))) (go_keep) (first | (go_at_call 20; refine (eval_any gx its _ vals _ ((uh HPX).below (uh HB1).drew) ((uh HSL).below (Below.refl _ _).drew)).mono ?_; rintro e w2 hev; obtain ⟨lo, lc, rfl, hb2, ho2⟩ := hev.uni; have HB2 := hide (below_of_drew hb2); have HO2 := hide ho2; obtain ⟨m0, m1⟩ := uh HCE _ (below_of_drew hb2); clear hb2 ho2 hev))
 have hs2 : w.heap.size < w2.heap.size := Nat.lt_of_lt_of_le hs1 (uh HB2).size
 clear n0 n1
 have HB02 := hide (below_after (uh HB1) (uh HB2))
 go_wp2_with fail
 refine (rEval_any gy its _ vals _ ((uh HPY).below (uh HB02)) ((uh HV).below (uh HB02))).mono ?_
 rintro e w3 hev
 obtain ⟨ko, kc, rfl, hb3, ho3⟩ := hev.uni
 have HB3 := hide hb3
 have HB03 := hide (below_after (uh HB02) hb3)
 have HO3 := hide ho3
 clear hb3 ho3 hev m0 m1
 go_wp2_with fail
 refine (sameValues_any _ _ (evT its vals) _ ((SlAt.of_owns (uh HO2)).below (uh HB3)) (SlAt.of_owns (uh HO3)) (by omega)).mono ?_
 rintro e w4 ⟨rfl, hb4⟩
 have HB4 := hide (below_after (uh HB3) hb4)
 have HB04 := hide (below_after (uh HB03) hb4)
 clear hb4
 go_wp2_with fail
 refine (looksAt_any g h _ _ ((uh HK).below (uh HB04))).mono ?_
 rintro e w5 ⟨rfl, hb5⟩
 have hB25 : Below w2.heap.size w2 w5 := below_after (uh HB4) hb5
 have hB05 := below_after (uh HB04) hb5
 have hk5 := (uh HK).below hB05
 have ho5 : w5.ownsRow g 3 1 (.slice (some ⟨gb, 0, none⟩) (vals.length + 8) gc) (vals.length + 8) (lentL vals 8) := owns_base (owns_below (uh HO1) (below_after (uh HB2) hB25)) (by have := (uh HB0).size; omega)
 have hgbX : False ∨ (w.heap.size ≤ gb ∧ gb < w5.heap.size) := Or.inr ⟨by have := (uh HB0).size; omega, by have := (uh HB2).size; have := hB25.size; omega⟩
 have hl5 := owns_base (owns_below (uh HO2) hB25) (base' := g) (by have := (uh HB1).size; simp; omega)
 have hlb : ∀ b, (Value.slice lo (evT its vals).length lc).ownBlock = some b → w1.heap.size ≤ b ∧ b < w5.heap.size := fun b hb => by
  have h1 := (uh HO2).lt b hb
  have h2 := hB25.size
  simp at h1
  omega
 have HLB := hide hlb
 have HL5 := hide hl5
 have HB05 := hide (hB05.mono (Nat.le_of_lt hgl))
 have HIS := hide ((uh HV).below hB05)
 have HK5 := hide hk5
 have HO5 := hide ho5
 have HGX := hide hgbX
 have hsw := (uh HB1).size
 have hs01 := (uh HB0).size
 clear hb5 hB25 hB05 hk5 ho5 hl5 hlb hgbX
 go_wp2_with fail
 refine (whole_any g h _ gb gc _ vals _ (uh HK5) (uh HO5) (uh HGX) (uh HIS) (fun hne a n c he => by
  rcases uh HV with ⟨h0, _⟩ | ⟨g', off', c', hv', _, _, hg', _⟩
  ·exact absurd h0 hne
  ·rw [hv'] at he
   simp only [Value.slice.injEq, Option.some.injEq] at he
   rw [← he.1]
   simp only
   omega) (uh HLS)).mono ?_
 rintro e w6 ⟨rfl, hk6, hb6, hx6⟩
 have hl6 : w6.ownsRow g 51 2 (.slice lo (evT its vals).length lc) (evT its vals).length ((evT its vals).flatMap vcells) := owns_same (uh HL5) (fun b hb => by
  have := uh HLB b hb
  exact hx6 b (Or.inr ⟨by omega, by omega⟩) (by omega))
 have hX6 : ∀ b, (Value.slice lo (evT its vals).length lc).ownBlock = some b → (False ∨ (w.heap.size ≤ b ∧ b < w5.heap.size)) ∧ b ≠ gb := fun b hb => by
  have := uh HLB b hb
  exact ⟨Or.inr ⟨by omega, by omega⟩, by omega⟩
 have HK6 := hide hk6
 have HB6 := hide ((uh HB05).trans hb6)
 have HL6 := hide hl6
 have HX6 := hide hX6
 clear hk6 hb6 hx6 hl6 hX6
 go_wp2_with fail
 refine (ownValues_any g _ _ lo _ lc _ _ (uh HK6) (uh HL6) (uh HX6) (by omega) (uh HVS)).mono ?_
 rintro e w7 ⟨rfl, hb7, l2, hl2, hk7⟩
 have HK7 := hide hk7
 have HB7 := hide ((uh HB6).trans hb7)
 clear hk7 hb7
 go_wp2_with fail
 refine (num_any _ _).mono ?_
 rintro e w8 ⟨rfl, rfl⟩
 go_wp2_with fail
 refine (num_any _ _).mono ?_
 rintro e w9 ⟨rfl, rfl⟩
 go_wp2_with fail
 go_ret
 exact ⟨by simp, uh HB7, _, l2, rfl, hl2, uh HK7⟩
end Go.Proofs.YthnggjaecngbiaaGreatDoor
namespace Go.Proofs.YthnggjaecngbiaaGreatDoor
open Go.RowKit
set_option maxRecDepth 100000 in
set_option maxHeartbeats 3200000 in
theorem explains_any (g : Nat) (h : Hist) (gx gy : Nat) (its : List PItem) (clear : Int) (vl : Value) (vals : List Int) (w : World) (k : LawAt w g h (fun _ => False)) (hp : (gx, gy, its) ∈ h.ps) (hv : InSl w vl vals)
  (hl : (vals.length + 8) * 8 ≤ 140737488355328) (hls : (h.ls.length + 1 + (h.ls.length + 1) / 4 + 192) * 24 ≤ 281474976710656) (ht : Tab w) :
  Calls Tryz.prog 59 #[.pointer (some ⟨g, 0, none⟩), .agg #[.pointer (some ⟨gx, 0, none⟩), .pointer (some ⟨gy, 0, none⟩)], .int .i64 clear, vl] w fun e w' => e = .returned (.bool true) ∧ Below g w w' ∧ ∃ l1, l1.length = 1 ∧ LawAt w' g { h with ls := h.ls ++ l1 } (fun _ => False) := by
 have hgl := k.gt
 obtain ⟨hpx, hpy⟩ := k.still.ps _ hp
 simp only at hpx hpy
 obtain ⟨vo, vc, rfl⟩ := hv.form
 obtain ⟨w0, hw0⟩ : ∃ w0, w0 = w.alloc (.cells #[.pointer (some ⟨gx, 0, none⟩), .pointer (some ⟨gy, 0, none⟩)] 105) := ⟨_, rfl⟩
 have hb0 : Below w.heap.size w w0 := by rw [hw0]; exact (Below.refl _ w).alloc (Nat.le_refl _) _
 have HN0 : Hid (w0.heap[w.heap.size]? = some (.cells #[.pointer (some ⟨gx, 0, none⟩), .pointer (some ⟨gy, 0, none⟩)] 105)) := hide (by rw [hw0]; exact alloc_last w _)
 have HB0 := hide hb0
 have HK := hide k
 have HPX := hide hpx
 have HPY := hide hpy
 have HV := hide hv
 have HL := hide hl
 have HLS := hide hls
 have HT := hide ht
 have hvlen : vals.length ≤ 17592186044416 := by clear hls; omega
 clear k hp hv hl hls hpx hpy hb0 ht
 go_enter Tryz.func59, Tryz.ntmps59
 go_wp2_with fail
 rw [← hw0]
 clear hw0
 refine (lend_any g _ vals _ ((uh HV).below (uh HB0)) (uh HL)).mono ?_
 rintro e w1 ⟨gb, gc, rfl, hb1, ho1⟩
 have HB1 := hide (below_after (uh HB0) hb1)
 have HO1 := hide ho1
 have hN1 := (hb1.block _ (lt_of_block (uh HN0))).trans (uh HN0)
 obtain ⟨⟨n0, n1⟩, -⟩ := box2 hN1
 have HN1 := hide hN1
 have hs1 := lt_of_block hN1
 have hgb : w0.heap.size ≤ gb ∧ gb < w1.heap.size := ho1.lt gb rfl
 have hgc : vals.length + 8 ≤ gc := by
  rcases ho1.2 with ⟨hv, _⟩ | ⟨g', c', cur, hv, _, _, h1, _⟩
  ·simp at hv
  ·simp only [Value.slice.injEq, true_and] at hv
   omega
 clear hb1 ho1 hN1
 have HCE : Hid (∀ w', Below w1.heap.size w1 w' → w'.cell? ⟨w.heap.size, 0, none⟩ = some (.pointer (some ⟨gx, 0, none⟩)) ∧ w'.cell? ⟨w.heap.size, 1, none⟩ = some (.pointer (some ⟨gy, 0, none⟩))) := hide (fun w' hb' => (box2 ((hb'.block _ hs1).trans (uh HN1))).1)
 have HSL := hide (lent_sl (uh HO1))
 have hcc : (vals.length : Int) ≤ gc := by omega
 go_wp2_with fail
 obtain ⟨er, hr⟩ : ∃ er, explR its clear vals = er := ⟨_, rfl⟩
 have HR := hide hr
 clear hr
 go_region_held3 (fun w' => w'.cell? ⟨w.heap.size, 0, none⟩ = some (.pointer (some ⟨gx, 0, none⟩)) ∧ w'.cell? ⟨w.heap.size, 1, none⟩ = some (.pointer (some ⟨gy, 0, none⟩))) (go_keep) (first | (go_at_call 17; refine (explain_any gx its clear _ vals _ ((uh HPX).below (uh HB1).drew) ((uh HSL).below (Below.refl _ _).drew) (tab_below (uh HB1).drew (uh HT))).mono ?_; rintro e w2 ⟨rfl, hb2⟩; rw [uh HR]; have HB2 := hide (below_of_drew hb2); obtain ⟨m0, m1⟩ := uh HCE _ (below_of_drew hb2); clear hb2))
 obtain ⟨es, ee⟩ := er
 have hs2 : w.heap.size < w2.heap.size := Nat.lt_of_lt_of_le hs1 (uh HB2).size
 clear n0 n1
 have HB02 := hide (below_after (uh HB1) (uh HB2))
 go_wp2_with fail
 refine (rExplain_any gy its clear _ vals _ ((uh HPY).below (uh HB02)) ((uh HV).below (uh HB02))).mono ?_
 rintro e w5 ⟨rfl, hb3⟩
 rw [uh HR]
 have hB25 : Below w2.heap.size w2 w5 := hb3
 have hB05 := below_after (uh HB02) hb3
 have hk5 := (uh HK).below hB05
 have ho5 : w5.ownsRow g 3 1 (.slice (some ⟨gb, 0, none⟩) (vals.length + 8) gc) (vals.length + 8) (lentL vals 8) := owns_base (owns_below (uh HO1) (below_after (uh HB2) hB25)) (by have := (uh HB0).size; omega)
 have hgbX : False ∨ (w.heap.size ≤ gb ∧ gb < w5.heap.size) := Or.inr ⟨by have := (uh HB0).size; omega, by have := (uh HB2).size; have := hB25.size; omega⟩
 have HB05 := hide (hB05.mono (Nat.le_of_lt hgl))
 have HIS := hide ((uh HV).below hB05)
 have HK5 := hide hk5
 have HO5 := hide ho5
 have HGX := hide hgbX
 have hsw := (uh HB1).size
 have hs01 := (uh HB0).size
 clear hb3 hB25 hB05 hk5 ho5 hgbX m0 m1
 go_wp2_with fail
 refine (whole_any g h _ gb gc _ vals _ (uh HK5) (uh HO5) (uh HGX) (uh HIS) (fun hne a n c he => by
  rcases uh HV with ⟨h0, _⟩ | ⟨g', off', c', hv', _, _, hg', _⟩
  ·exact absurd h0 hne
  ·rw [hv'] at he
   simp only [Value.slice.injEq, Option.some.injEq] at he
   rw [← he.1]
   simp only
   omega) (uh HLS)).mono ?_
 rintro e w6 ⟨rfl, hk6, hb6, hx6⟩
 have HK6 := hide (hk6.weaken (Y := fun _ => False) (fun _ hf => hf.elim))
 have HB6 := hide ((uh HB05).trans hb6)
 clear hk6 hb6 hx6
 go_wp2_with fail
 refine (num_any _ _).mono ?_
 rintro e w8 ⟨rfl, rfl⟩
 go_wp2_with fail
 refine (num_any _ _).mono ?_
 rintro e w9 ⟨rfl, rfl⟩
 go_wp2_with fail
 go_ret
 exact ⟨by simp, uh HB6, _, rfl, uh HK6⟩
end Go.Proofs.YthnggjaecngbiaaGreatDoor
namespace Go.Proofs.YthnggjaecngbiaaGreatDoor
open Go.RowKit
def planT (e : TypeId) : Bool := e == 98 || e == 119 || e == 9 || e == 160 || e == 193 || e == 143 || e == 141 || e == 179 || e == 181
theorem POwn.keep {w w' : World} {g : Nat} {its : List PItem} (h : POwn w g its) (k : ∀ (j : Nat) (c : Array Value) (e : TypeId), planT e = true → w.heap[j]? = some (.cells c e) → w'.heap[j]? = w.heap[j]?) : POwn w' g its := by
 obtain ⟨v, xs, base, h1, h2, h3⟩ := h
 refine ⟨v, xs, base, (k _ _ _ rfl h1).trans h1, ⟨owns_keep h2.1 (fun j c _ hj => k j c _ rfl hj), fun x hx => (h2.2 x hx).keep (fun j c e he _ hj => k j c e (by rcases he with rfl | rfl | rfl <;> rfl) hj)⟩, h3⟩
theorem ROwn.keep {w w' : World} {g : Nat} {its : List PItem} (h : ROwn w g its) (k : ∀ (j : Nat) (c : Array Value) (e : TypeId), planT e = true → w.heap[j]? = some (.cells c e) → w'.heap[j]? = w.heap[j]?) : ROwn w' g its := by
 obtain ⟨v, xs, base, h1, h2, h3⟩ := h
 refine ⟨v, xs, base, (k _ _ _ rfl h1).trans h1, ⟨owns_keep h2.1 (fun j c _ hj => k j c _ rfl hj), fun x hx => (h2.2 x hx).keep (fun j c e he _ hj => k j c e (by rcases he with rfl | rfl | rfl <;> rfl) hj)⟩, h3⟩
theorem POwn.below {w w' : World} {g : Nat} {its : List PItem} (h : POwn w g its) (b : Below w.heap.size w w') : POwn w' g its := h.keep (fun j _ _ _ hj => b.block j (lt_of_block hj))
theorem planT_row {i : Nat} (hi : i < 6) : planT (wty i) = false := by
 rcases (by omega : i = 0 ∨ i = 1 ∨ i = 2 ∨ i = 3 ∨ i = 4 ∨ i = 5) with rfl | rfl | rfl | rfl | rfl | rfl <;> rfl
theorem LawG.plan {w : World} {g : Nat} {rx : Nat → List Value} {h : Hist} {X F : Nat → Prop} {r : Nat → LRow} (k : LawG w g rx h X F r) {gx gy : Nat} {its : List PItem} (hx : POwn w gx its) (hy : ROwn w gy its) :
  LawG w g rx { h with ps := h.ps ++ [(gx, gy, its)] } (fun _ => False) (fun j => F j ∨ ∃ c e, planT e = true ∧ w.heap[j]? = some (.cells c e)) r := by
 obtain ⟨h1, h2, h3, h4⟩ := k
 refine ⟨h1.more (fun j hj => ?_), h2, fun w' hs hF => ?_, fun _ hf => hf.elim⟩
 ·rcases hj with hj | ⟨c, e, he, hj⟩
  ·exact Or.inl hj
  ·refine Or.inr ⟨lt_of_block hj, fun e2 => ?_, fun i hi hb => ?_⟩
   ·rw [e2, h1.blk] at hj
    simp only [Option.some.injEq, Obj.cells.injEq, and_true] at hj
    rw [← hj.2] at he
    exact absurd he (by decide)
   ·rcases (h1.own i hi).2 with ⟨hv, _⟩ | ⟨g', c', cur, hv, _, hg', _⟩
    ·rw [hv] at hb
     simp [Value.ownBlock] at hb
    ·rw [hv] at hb
     simp only [Value.ownBlock, Option.some.injEq] at hb
     subst hb
     rw [hg'] at hj
     simp only [Option.some.injEq, Obj.cells.injEq, and_true] at hj
     rw [← hj.2, planT_row hi] at he
     cases he
 ·have hst := h3 w' hs (fun j hj => hF j (Or.inl hj))
  refine ⟨fun p hp => ?_, hst.ns, hst.vs, hst.ls⟩
  rcases List.mem_append.1 hp with hp | hp
  ·exact hst.ps p hp
  ·simp only [List.mem_singleton] at hp
   subst hp
   exact ⟨(hx.keep (fun j c e he hj => hF j (Or.inr ⟨c, e, he, hj⟩))).plan, (hy.keep (fun j c e he hj => hF j (Or.inr ⟨c, e, he, hj⟩))).plan⟩
theorem rowX_ps (h : Hist) (gx gy : Nat) (its : List PItem) : ∀ i, i < 6 → updX (rowX h) 0 (rowX h 0 ++ [.pointer (some ⟨gx, 0, none⟩), .pointer (some ⟨gy, 0, none⟩)]) i = rowX { h with ps := h.ps ++ [(gx, gy, its)] } i := by
 intro i hi
 rcases (by omega : i = 0 ∨ i = 1 ∨ i = 2 ∨ i = 3 ∨ i = 4 ∨ i = 5) with rfl | rfl | rfl | rfl | rfl | rfl <;> simp [updX, rowX]
theorem LawG.count0 {w : World} {g : Nat} {h : Hist} {X F : Nat → Prop} {r : Nat → LRow} (k : LawG w g (rowX h) h X F r) : (r 0).n = h.ps.length := by
 have := (k.1.own 0 (by omega)).1
 rw [k.2.1 0 (by omega)] at this
 simp only [rowX, wsz] at this
 rw [flat_len _ 2 (fun _ => rfl)] at this
 omega
structure More (h h' : Hist) : Prop where
 ps : h'.ps.length ≤ h.ps.length + 1
 vs : h'.vs.length ≤ h.vs.length + 4
 ls : h'.ls.length ≤ h.ls.length + 1
 ns : h'.ns.length ≤ h.ns.length + 4
theorem More.refl (h : Hist) : More h h := ⟨by omega, by omega, by omega, by omega⟩
def StepOf (g : Nat) (h : Hist) (w : World) (e : Ending) (w' : World) : Prop := e = .returned (.bool true) ∧ Below g w w' ∧ ∃ h', More h h' ∧ LawAt w' g h' (fun _ => False)
def pickL (c : Int) (n : Nat) : Nat := ((if c < 0 then -(c + 1) else c) % (n : Int)).toNat
theorem pickL_lt {c : Int} {n : Nat} (hn : 0 < n) : pickL c n < n := by
 unfold pickL
 have h4 := Int.emod_lt_of_pos (if c < 0 then -(c + 1) else c) (show (0 : Int) < n by omega)
 have h3 := Int.emod_nonneg (if c < 0 then -(c + 1) else c) (show (n : Int) ≠ 0 by omega)
 omega
set_option maxHeartbeats 400000 in
theorem lpick_any (c : Int) (n : Nat) (w : World) (hn : 0 < n) (hn2 : n ≤ 9223372036854775807) (h1 : -9223372036854775808 ≤ c) (h2 : c ≤ 9223372036854775807) :
  Calls Tryz.prog 56 #[.int .i64 c, .int .i64 (n : Int)] w fun e w' => e = .returned (.int .i64 ((pickL c n : Nat) : Int)) ∧ w' = w := by
 have hz : ((n : Int) == 0) = false := by rw [beq_eq_false_iff_ne]; omega
 have h3 := Int.emod_nonneg (if c < 0 then -(c + 1) else c) (show (n : Int) ≠ 0 by omega)
 by_cases hc : c < 0
 ·have hpos : 0 ≤ -(c + 1) := by omega
  have HI : Hid (((pickL c n : Nat) : Int) = (-(c + 1)) % (n : Int)) := hide (by
   unfold pickL
   rw [Int.toNat_of_nonneg h3, if_pos hc])
  clear h3
  go_enter Tryz.func56, Tryz.ntmps56
  go_wp2
  go_ret
  refine ⟨?_, rfl⟩
  rw [uh HI, ← Int.tmod_eq_emod_of_nonneg hpos, Int.neg_tmod]
  rfl
 ·have hpos : 0 ≤ c := by omega
  have HI : Hid (((pickL c n : Nat) : Int) = c % (n : Int)) := hide (by
   unfold pickL
   rw [Int.toNat_of_nonneg h3, if_neg hc])
  clear h3
  go_enter Tryz.func56, Tryz.ntmps56
  go_wp2
  go_ret
  refine ⟨?_, rfl⟩
  rw [uh HI, ← Int.tmod_eq_emod_of_nonneg hpos]
  rfl
set_option maxRecDepth 100000 in
set_option maxHeartbeats 3200000 in
theorem step_new (g : Nat) (h : Hist) (p c : Int) (s : ByteArray) (vo : Option Addr) (vn vc : Nat) (w : World) (k : LawAt w g h (fun _ => False)) (hs : s.size ≤ maxLen) (hps : (h.ps.length + 1 + (h.ps.length + 1) / 4 + 192) * 16 ≤ 281474976710656) (hpm : h.ps.length + 1 ≤ maxLen) :
  Calls Tryz.prog 33 #[.pointer (some ⟨g, 0, none⟩), .agg #[.int .i64 2, .int .i64 p, .string s, .int .i64 c, .slice vo vn vc]] w (StepOf g h w) := by
 have hgl := k.gt
 obtain ⟨w0, hw0⟩ : ∃ w0, w0 = w.alloc (.cells #[.int .i64 2, .int .i64 p, .string s, .int .i64 c, .slice vo vn vc] 82) := ⟨_, rfl⟩
 have hb0 : Below w.heap.size w w0 := by rw [hw0]; exact (Below.refl _ w).alloc (Nat.le_refl _) _
 have HN0 : Hid (w0.heap[w.heap.size]? = some (.cells #[.int .i64 2, .int .i64 p, .string s, .int .i64 c, .slice vo vn vc] 82)) := hide (by rw [hw0]; exact alloc_last w _)
 have HB0 := hide hb0
 have HK := hide k
 have HS := hide hs
 have HPS := hide hps
 have HPM := hide hpm
 clear k hs hps hpm hb0
 go_enter Tryz.func33, Tryz.ntmps33
 go_wp2_with fail
 rw [← hw0]
 clear hw0
 refine (new_own s _ (uh HS)).mono ?_
 rintro e w1 (⟨n, ce, hpl, rfl, hb1⟩ | ⟨its, gx, hpl, rfl, hb1, hgx, hox⟩)
 ·have hN1 := (hb1.block _ (lt_of_block (uh HN0))).trans (uh HN0)
  obtain ⟨⟨_, _, k2, _, _⟩, -⟩ := cells5 hN1
  have hs1 := lt_of_block hN1
  have HB1 := hide (below_after (uh HB0) hb1)
  have HPL := hide hpl
  clear hb1 hN1 hpl
  go_wp2_with fail
  refine (rnew_own s _).mono ?_
  rintro e w2 (⟨n2, ce2, hpl2, rfl, hb2⟩ | ⟨its2, gy, hpl2, rfl, hb2, hgy, hoy⟩)
  ·rw [uh HPL] at hpl2
   simp only [Sum.inl.injEq, Prod.mk.injEq] at hpl2
   obtain ⟨_, rfl⟩ := hpl2
   have HB2 := hide (below_after (uh HB1) hb2)
   clear hb2
   go_wp2_with fail
   refine (num_any _ _).mono ?_
   rintro e w8 ⟨rfl, rfl⟩
   go_wp2_with fail
   refine (num_any _ _).mono ?_
   rintro e w9 ⟨rfl, rfl⟩
   go_wp2_with fail
   go_ret
   exact ⟨rfl, (uh HB2).mono (Nat.le_of_lt hgl), h, More.refl h, ((uh HK).below (uh HB2)).weaken (fun _ hf => hf.elim)⟩
  ·rw [uh HPL] at hpl2
   cases hpl2
 ·have hN1 := (hb1.block _ (lt_of_block (uh HN0))).trans (uh HN0)
  obtain ⟨⟨_, _, k2, _, _⟩, -⟩ := cells5 hN1
  have hs1 := lt_of_block hN1
  have HB1 := hide (below_after (uh HB0) hb1)
  have HPL := hide hpl
  have HOX := hide hox
  clear hb1 hN1 hpl hox hgx
  go_wp2_with fail
  refine (rnew_own s _).mono ?_
  rintro e w2 (⟨n2, ce2, hpl2, rfl, hb2⟩ | ⟨its2, gy, hpl2, rfl, hb2, hgy, hoy⟩)
  ·rw [uh HPL] at hpl2
   cases hpl2
  ·rw [uh HPL] at hpl2
   simp only [Sum.inr.injEq] at hpl2
   subst hpl2
   obtain ⟨F, r, kG⟩ := (uh HK).below (below_after (uh HB1) hb2)
   have kP := kG.plan ((uh HOX).below hb2) hoy
   have HB2 := hide (below_after (uh HB1) hb2)
   obtain ⟨o0, p0, h0v⟩ := kG.1.form (i := 0) (by omega)
   rw [kG.count0] at h0v
   obtain ⟨⟨c0, _, _, _, _, _⟩, f0, _⟩ := kP.1.cells
   have own0 : w2.ownsRow g 105 2 (.slice o0 h.ps.length p0) h.ps.length (rowX h 0) := by
    have := kG.1.own 0 (by omega)
    rw [kG.2.1 0 (by omega), kG.count0, h0v] at this
    exact this
   rw [h0v] at c0
   have H0V := hide h0v
   have HKP := hide kP
   have HO0 := hide own0
   have hgl2 := lt_of_block kP.1.blk
   have HG2 := hide (Nat.le_of_lt hgl2)
   obtain ⟨i2, hi2, z0, z1, z2⟩ := info_parts Tryz.info_pair
   clear hb2 kG kP own0 h0v hgy hoy k2
   go_wp2_with fail
   refine (num_any _ _).mono ?_
   rintro e w8 ⟨rfl, rfl⟩
   go_wp2_with fail
   refine (num_any _ _).mono ?_
   rintro e w9 ⟨rfl, rfl⟩
   go_wp2_with (at_builtin; refine wpList_append_told _ (by rfl) _ _ _ (by rfl) g 105 i2 _ 2 16 Tryz.underlying74 hi2 z0 z1 z2 rfl (by decide) (.slice o0 h.ps.length p0) h.ps.length (rowX h 0) (by rfl) ((uh HO0).alloc _) ⟨w9.heap.size, 0, none⟩ 1 1 [.pointer (some ⟨gx, 0, none⟩), .pointer (some ⟨gy, 0, none⟩)] (by rfl) (by rfl) (World.news_of_block (cs := #[.pointer (some ⟨gx, 0, none⟩), .pointer (some ⟨gy, 0, none⟩)]) (t := 105) (fr := (0, 0)) (heap_alloc_new w9 _)) (by simp [Value.oneCell']) (by decide) (uh HPM) (uh HPS) (Nat.le_trans (uh HG2) ((Below.refl g w9).alloc (uh HG2) _).size) (w9.heap.size + 1) (by simp) ?_; intro g4 c4 w6 hown7 hgrow7 hat7 hrow7; rw [← uh H0V] at hgrow7 hat7; have A4 := hide (((uh HKP).below ((Below.refl _ w9).alloc (Nat.le_refl _) _)).push (i := 0) (E := fun _ => False) (by decide) hgrow7 hown7 hat7 (by simp) (fun _ hf => hf.elim) (fun w' hs hF => ((uh HKP).below ((Below.refl _ w9).alloc (Nat.le_refl _) _)).2.2.1 w' hs (fun j hj => hF j (Or.inl hj)))); obtain ⟨⟨ya, _, _, _, _, _⟩, yc, _⟩ := ((uh HKP).below ((Below.refl _ w9).alloc (Nat.le_refl _) _)).cells (i := 0) (by decide) hgrow7; rw [uh H0V] at ya; have yg := Nat.lt_of_lt_of_le (lt_of_block ((uh HKP).below ((Below.refl _ w9).alloc (Nat.le_refl _) _)).1.blk) hgrow7.size; clear hown7 hgrow7 hat7 hrow7)
   go_ret
   obtain ⟨a1, a2, _⟩ := uh A4
   refine ⟨rfl, ((uh HB2).mono (Nat.le_of_lt hgl)).trans ((Below.alloc (Below.refl g w9) (uh HG2) _).trans a2), _, ⟨by simp, by simp, by simp, by simp⟩, LawAt.weaken (a1.at (rowX_ps h gx gy _)) (fun _ hf => hf.elim)⟩
end Go.Proofs.YthnggjaecngbiaaGreatDoor
