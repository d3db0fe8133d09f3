import Derived.Test.YthnggjaecngbiaaGreatDoorLgL
namespace Go.Proofs.YthnggjaecngbiaaGreatDoor
open Go.RowKit
structure OpOk (w : World) (o : OpD) (vals : List Int) : Prop where
 text : o.s.size ≤ maxLen
 lo : -9223372036854775808 ≤ o.p
 hi : o.p ≤ 9223372036854775807
 ins : InSl w (.slice o.vo o.vn o.vc) vals
 fit : (vals.length + 8) * 8 ≤ 140737488355328
theorem OpOk.below {w w' : World} {o : OpD} {vals : List Int} (h : OpOk w o vals) (b : Below w.heap.size w w') : OpOk w' o vals := ⟨h.text, h.lo, h.hi, h.ins.below b, h.fit⟩
structure Few (h : Hist) (n : Nat) : Prop where
 ps : h.ps.length ≤ n
 ls : h.ls.length ≤ n
 vs : h.vs.length ≤ 4 * n
 ns : h.ns.length ≤ 4 * n
theorem Few.more {h h' : Hist} {n : Nat} (k : Few h n) (m : More h h') : Few h' (n + 1) := by
 have := m.ps
 have := m.ls
 have := m.vs
 have := m.ns
 have := k.ps
 have := k.ls
 have := k.vs
 have := k.ns
 exact ⟨by omega, by omega, by omega, by omega⟩
theorem Few.mono {h : Hist} {n m : Nat} (k : Few h n) (hm : n ≤ m) : Few h m := by
 have := k.ps
 have := k.ls
 have := k.vs
 have := k.ns
 exact ⟨by omega, by omega, by omega, by omega⟩
set_option maxRecDepth 100000 in
theorem Few.fits {h : Hist} {n : Nat} (k : Few h n) (hn : n ≤ 2199023256000) : (h.ps.length + 1 + (h.ps.length + 1) / 4 + 192) * 16 ≤ 281474976710656 ∧ h.ps.length + 1 ≤ maxLen ∧ (h.ls.length + 1 + (h.ls.length + 1) / 4 + 192) * 24 ≤ 281474976710656 ∧ (h.vs.length + 4 + (h.vs.length + 4) / 4 + 192) * 24 ≤ 281474976710656 ∧ (h.ns.length + 4 + (h.ns.length + 4) / 4 + 192) * 24 ≤ 281474976710656 := by
 have p1 : h.ps.length + 1 ≤ 2199023256001 := Nat.succ_le_succ (Nat.le_trans k.ps hn)
 have l1 : h.ls.length + 1 ≤ 2199023256001 := Nat.succ_le_succ (Nat.le_trans k.ls hn)
 have v1 : h.vs.length + 4 ≤ 8796093024004 := Nat.add_le_add_right (Nat.le_trans k.vs (Nat.mul_le_mul_left 4 hn)) 4
 have n1 : h.ns.length + 4 ≤ 8796093024004 := Nat.add_le_add_right (Nat.le_trans k.ns (Nat.mul_le_mul_left 4 hn)) 4
 refine ⟨?_, Nat.le_trans p1 (by decide), ?_, ?_, ?_⟩
 ·exact Nat.le_trans (Nat.mul_le_mul_right 16 (Nat.add_le_add_right (Nat.add_le_add p1 (Nat.div_le_div_right p1)) 192)) (by decide)
 ·exact Nat.le_trans (Nat.mul_le_mul_right 24 (Nat.add_le_add_right (Nat.add_le_add l1 (Nat.div_le_div_right l1)) 192)) (by decide)
 ·exact Nat.le_trans (Nat.mul_le_mul_right 24 (Nat.add_le_add_right (Nat.add_le_add v1 (Nat.div_le_div_right v1)) 192)) (by decide)
 ·exact Nat.le_trans (Nat.mul_le_mul_right 24 (Nat.add_le_add_right (Nat.add_le_add n1 (Nat.div_le_div_right n1)) 192)) (by decide)
theorem stepAll (g : Nat) (h : Hist) (o : OpD) (vals : List Int) (n : Nat) (w : World) (k : LawAt w g h (fun _ => False)) (hk : o.k ≤ 5) (ok : OpOk w o vals) (hf : Few h n) (hn : n ≤ 2199023256000) (ht : Tab w) :
  Calls Tryz.prog 33 #[.pointer (some ⟨g, 0, none⟩), .agg #[.int .i64 o.k, .int .i64 o.p, .string o.s, .int .i64 o.c, .slice o.vo o.vn o.vc]] w (StepOf g h w) := by
 obtain ⟨f1, f2, f3, f4, -⟩ := hf.fits hn
 by_cases h1 : o.k = 1
 ·rw [h1]
  exact step_plain g h o.p o.c o.s o.vo o.vn o.vc w k ok.text ht
 ·by_cases h2 : o.k = 2
  ·rw [h2]
   exact step_new g h o.p o.c o.s o.vo o.vn o.vc w k ok.text f1 f2
  ·exact step_more g h o.k o.p o.c o.s o.vo o.vn o.vc vals w k hk h1 h2 ok.lo ok.hi ok.ins ok.fit f3 f4 ht
set_option maxRecDepth 100000 in
set_option maxHeartbeats 3200000 in
theorem played5_any (v : Value) (ops : List OpD) (w : World) (hv : OpsV w v ops) (hok : ∀ o ∈ ops, ∃ vals, OpOk w o vals) (hn : ops.length ≤ 2199023255552) (ht : Tab w) :
  Calls Tryz.prog 11 #[v, .int .i64 5] w fun e w' => e = .returned (.bool true) ∧ Below w.heap.size w w' := by
 obtain ⟨ao, cap, rfl⟩ := hv.form
 have HV := hide hv
 have HOK := hide hok
 have HT := hide ht
 obtain ⟨w0, hw0⟩ : ∃ w0, w0 = w.alloc (.cells #[.slice none 0 0, .slice none 0 0, .slice none 0 0, .slice none 0 0, .slice none 0 0, .slice none 0 0] 79) := ⟨_, rfl⟩
 have hb0 : Below w.heap.size w w0 := by rw [hw0]; exact (Below.refl _ w).alloc (Nat.le_refl _) _
 have HK0 : Hid (LawAt w0 w.heap.size ⟨[], [], [], []⟩ (fun _ => False)) := hide (by rw [hw0]; exact LawAt.new w)
 have HB0 := hide hb0
 have HF0 : Hid (Few ⟨[], [], [], []⟩ 0) := hide ⟨by simp, by simp, by simp, by simp⟩
 clear hv hok ht hb0
 go_enter Tryz.func11, Tryz.ntmps11
 go_wp2_with fail
 rw [← hw0]
 clear hw0
 refine (step_plain w.heap.size _ 0 0 _ none 0 0 _ (uh HK0) (by unfold maxLen; exact Nat.le_trans (m := 1000) (by decide) (by decide)) (tab_below (uh HB0) (uh HT))).mono ?_
 rintro e w1 ⟨rfl, hb1, h1, hm1, hk1⟩
 have HB1 := hide ((uh HB0).trans hb1)
 have HK1 := hide hk1
 have HF1 := hide ((uh HF0).more hm1)
 clear hb1 hm1 hk1
 go_wp2_with fail
 refine (step_new w.heap.size _ 0 0 _ none 0 0 _ (uh HK1) (by unfold maxLen; exact Nat.le_trans (m := 1000) (by decide) (by decide)) ((uh HF1).fits (by decide)).1 ((uh HF1).fits (by decide)).2.1).mono ?_
 rintro e w2 ⟨rfl, hb2, h2, hm2, hk2⟩
 have HB2 := hide ((uh HB1).trans hb2)
 have HK2 := hide hk2
 have HF2 := hide ((uh HF1).more hm2)
 clear hb2 hm2 hk2
 have HA3 := hide ((Below.refl _ w2).alloc (Nat.le_refl _) (.cells #[.int .i64 30, .int .i64 1] 3))
 have HI3 : Hid (InSl (w2.alloc (.cells #[.int .i64 30, .int .i64 1] 3)) (.slice (some ⟨w2.heap.size, 0, none⟩) 2 2) [30, 1]) := hide (Or.inr ⟨w2.heap.size, 0, 2, rfl, by simp, by decide, by simp, fun j x hx => by
  have hb : (w2.alloc (.cells #[.int .i64 30, .int .i64 1] 3)).heap[w2.heap.size]? = some (.cells #[.int .i64 30, .int .i64 1] 3) := alloc_last w2 _
  match j, hx with
  | 0, hx => simp at hx; subst hx; exact (box2 hb).1.1
  | 1, hx => simp at hx; subst hx; exact (box2 hb).1.2
  | j + 2, hx => simp at hx⟩)
 have hg2 : w.heap.size ≤ w2.heap.size := Nat.le_of_lt (uh HK2).gt
 have HB2' := hide ((uh HB2).trans ((uh HA3).mono hg2))
 go_wp2_with fail
 refine (step_more w.heap.size h2 4 0 0 _ (some ⟨w2.heap.size, 0, none⟩) 2 2 [30, 1] _ (((uh HK2).below (uh HA3)).weaken (fun _ hf => hf.elim)) (by decide) (by decide) (by decide) (by decide) (by decide) (uh HI3) (by decide) ((uh HF2).fits (by decide)).2.2.1 ((uh HF2).fits (by decide)).2.2.2.1 (tab_below (uh HB2') (uh HT))).mono ?_
 rintro e w3 ⟨rfl, hb3, h3, hm3, hk3⟩
 have HB3 := hide ((uh HB2').trans hb3)
 have HK3 := hide hk3
 have HF3 := hide ((uh HF2).more hm3)
 clear hb3 hm3 hk3
 go_wp2_with fail
 go_loopg [7, 8] ops.length (fun gk ov iv wr => ∃ (j : Nat) (h' : Hist), j ≤ ops.length ∧ gk = ops.length - j ∧ iv = .int .i64 (j : Int) ∧ ov = .bool true ∧ LawAt wr w.heap.size h' (fun _ => False) ∧ Few h' (j + 3) ∧ Below w.heap.size w wr)
 case atStart => exact ⟨0, h3, by omega, rfl, rfl, rfl, uh HK3, uh HF3, uh HB3⟩
 case round =>
  obtain ⟨j, h', hj, hg, rfl, rfl, hk, hfew, hb⟩ := hrel
  have A : Aside (gk = ops.length - j ∧ LawAt wr w.heap.size h' (fun _ => False) ∧ Few h' (j + 3) ∧ Below w.heap.size w wr) := ⟨hg, hk, hfew, hb⟩
  clear hg hk hfew HK0 HB0 HF0 HB1 HK1 HF1 HB2 HK2 HF2 HA3 HI3 HB2' HB3 HK3 HF3
  by_cases hlt : j < ops.length
  ·rcases uh HV with ⟨h0, _⟩ | ⟨gs, off, cap', hv, hc, hmx, hgl, hxx⟩
   ·rw [h0] at hlt; simp at hlt
   simp only [Value.slice.injEq] at hv
   obtain ⟨rfl, _, rfl⟩ := hv
   obtain ⟨q0, q1, q2, q3, q4⟩ := hxx j ops[j] (List.getElem?_eq_getElem hlt)
   have k0 := (hb.cell (p := ⟨gs, off + j * 5, none⟩) hgl).trans q0
   have k1 := (hb.cell (p := ⟨gs, off + j * 5 + 1, none⟩) hgl).trans q1
   have k2 := (hb.cell (p := ⟨gs, off + j * 5 + 2, none⟩) hgl).trans q2
   have k3 := (hb.cell (p := ⟨gs, off + j * 5 + 3, none⟩) hgl).trans q3
   have k4 := (hb.cell (p := ⟨gs, off + j * 5 + 4, none⟩) hgl).trans q4
   clear q0 q1 q2 q3 q4
   obtain ⟨vals, hov⟩ := uh HOK ops[j] (List.getElem_mem hlt)
   have hjc : (j : Int) < ops.length := by omega
   have hjd : decide ((j : Int) < ops.length) = true := by simp; omega
   have hjcap : (j : Int) < cap := by omega
   have hcapm : (cap : Int) ≤ 9223372036854775807 := by unfold maxLen at hmx; omega
   have hjn : j + 3 ≤ 2199023256000 := by omega
   have HOV := hide (hov.below hb)
   have HSTEP : Hid (ops[j].k ≤ 5 → Calls Tryz.prog 33 #[.pointer (some ⟨w.heap.size, 0, none⟩), .agg #[.int .i64 ops[j].k, .int .i64 ops[j].p, .string ops[j].s, .int .i64 ops[j].c, .slice ops[j].vo ops[j].vn ops[j].vc]] wr (StepOf w.heap.size h' wr)) := hide (fun hk5 => stepAll w.heap.size h' ops[j] vals (j + 3) wr A.out.2.1 hk5 (uh HOV) A.out.2.2.1 hjn (tab_below hb (uh HT)))
   generalize ops[j] = o at *
   obtain ⟨k, p, s, c, vo, vn, vc⟩ := o
   simp only at k0 k1 k2 k3 k4 HSTEP
   have hgl' : gs < wr.heap.size := Nat.lt_of_lt_of_le hgl hb.size
   clear hxx hb hc hmx hgl hov
   by_cases hk : k ≤ 5
   ·go_wp2_with fail
    refine (uh HSTEP hk).mono ?_
    rintro e w4 ⟨rfl, hb4, h4, hm4, hk4⟩
    have HB4 := hide (A.out.2.2.2.trans hb4)
    have HK4 := hide hk4
    have HF4 := hide (A.out.2.2.1.more hm4)
    clear hb4 hm4 hk4 k0 k1 k2 k3 k4
    go_wp2_with fail
    refine (looksAt_any w.heap.size h4 _ _ (uh HK4)).mono ?_
    rintro e w5 ⟨rfl, hb5⟩
    have HB5 := hide ((uh HB4).trans (hb5.mono (Nat.le_of_lt (uh HK4).gt)))
    have HK5 := hide (((uh HK4).below hb5).weaken (Y := fun _ => False) (fun _ hf => hf.elim))
    clear hb5
    go_wp2_with fail
    go_roundg (ops.length - (j + 1))
    case measure => have := A.out.1; omega
    case rel => exact ⟨j + 1, h4, by omega, rfl, by go_num, rfl, uh HK5, (uh HF4).mono (by omega), uh HB5⟩
   ·go_wp2_with fail
    refine (looksAt_any w.heap.size h' _ _ A.out.2.1).mono ?_
    rintro e w5 ⟨rfl, hb5⟩
    have HB5 := hide (A.out.2.2.2.trans (hb5.mono (Nat.le_of_lt A.out.2.1.gt)))
    have HK5 := hide ((A.out.2.1.below hb5).weaken (Y := fun _ => False) (fun _ hf => hf.elim))
    clear hb5
    go_wp2_with fail
    go_roundg (ops.length - (j + 1))
    case measure => have := A.out.1; omega
    case rel => exact ⟨j + 1, h', by omega, rfl, by go_num, rfl, uh HK5, A.out.2.2.1.mono (by omega), uh HB5⟩
  ·have hjc : ¬ (j : Int) < ops.length := by omega
   have hjd : decide ((j : Int) < ops.length) = false := by simp; omega
   clear hb
   go_wp2_with fail
   go_ret
   exact ⟨rfl, A.out.2.2.2⟩
theorem evalsLaw_any (v : Value) (ops : List OpD) (w : World) (hv : OpsV w v ops) (hok : ∀ o ∈ ops, ∃ vals, OpOk w o vals) (hn : ops.length ≤ 2199023255552) (ht : Tab w) :
  Calls Tryz.prog 5 #[v] w fun e w' => e = .returned (.bool true) ∧ Below w.heap.size w w' := by
 obtain ⟨ao, cap, rfl⟩ := hv.form
 have HV := hide hv
 have HS := hide hok
 have HT := hide ht
 clear hv hok ht
 go_enter Tryz.func5, Tryz.ntmps5
 go_wp2_with fail
 refine (played5_any _ ops _ (uh HV) (uh HS) hn (uh HT)).mono ?_
 rintro e w1 ⟨rfl, hb⟩
 have HB := hide hb
 clear hb
 go_wp2_with fail
 go_ret
 exact ⟨rfl, uh HB⟩
end Go.Proofs.YthnggjaecngbiaaGreatDoor
