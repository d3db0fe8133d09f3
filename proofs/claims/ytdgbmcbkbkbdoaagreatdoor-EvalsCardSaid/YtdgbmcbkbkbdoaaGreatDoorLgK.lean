import Derived.Test.YtdgbmcbkbkbdoaaGreatDoorLgI
namespace Go.Proofs.YtdgbmcbkbkbdoaaGreatDoor
open Go.RowKit
def planT (e : TypeId) : Bool := e == 94 || e == 114 || e == 9 || e == 155 || e == 185 || e == 136 || e == 134 || e == 171 || e == 173
theorem POwn.keep {w w' : World} {g : Nat} {its : List PItem} (h : POwn w g its) (k : ∀ (j : Nat) (c : Array Value) (e : TypeId), planT e = true → w.heap[j]? = some (.cells c e) → w'.heap[j]? = w.heap[j]?) : POwn w' g its := by
 obtain ⟨v, xs, base, h1, h2, h3⟩ := h
 refine ⟨v, xs, base, (k _ _ _ rfl h1).trans h1, ⟨owns_keep h2.1 (fun j c _ hj => k j c _ rfl hj), fun x hx => (h2.2 x hx).keep (fun j c e he _ hj => k j c e (by rcases he with rfl | rfl | rfl <;> rfl) hj)⟩, h3⟩
theorem ROwn.keep {w w' : World} {g : Nat} {its : List PItem} (h : ROwn w g its) (k : ∀ (j : Nat) (c : Array Value) (e : TypeId), planT e = true → w.heap[j]? = some (.cells c e) → w'.heap[j]? = w.heap[j]?) : ROwn w' g its := by
 obtain ⟨v, xs, base, h1, h2, h3⟩ := h
 refine ⟨v, xs, base, (k _ _ _ rfl h1).trans h1, ⟨owns_keep h2.1 (fun j c _ hj => k j c _ rfl hj), fun x hx => (h2.2 x hx).keep (fun j c e he _ hj => k j c e (by rcases he with rfl | rfl | rfl <;> rfl) hj)⟩, h3⟩
theorem POwn.below {w w' : World} {g : Nat} {its : List PItem} (h : POwn w g its) (b : Below w.heap.size w w') : POwn w' g its := h.keep (fun j _ _ _ hj => b.block j (lt_of_block hj))
theorem planT_row {i : Nat} (hi : i < 6) : planT (wty i) = false := by
 rcases (by omega : i = 0 ∨ i = 1 ∨ i = 2 ∨ i = 3 ∨ i = 4 ∨ i = 5) with rfl | rfl | rfl | rfl | rfl | rfl <;> rfl
theorem LawG.plan {w : World} {g : Nat} {rx : Nat → List Value} {h : Hist} {X F : Nat → Prop} {r : Nat → LRow} (k : LawG w g rx h X F r) {gx gy : Nat} {its : List PItem} (hx : POwn w gx its) (hy : ROwn w gy its) :
  LawG w g rx { h with ps := h.ps ++ [(gx, gy, its)] } (fun _ => False) (fun j => F j ∨ ∃ c e, planT e = true ∧ w.heap[j]? = some (.cells c e)) r := by
 obtain ⟨h1, h2, h3, h4⟩ := k
 refine ⟨h1.more (fun j hj => ?_), h2, fun w' hs hF => ?_, fun _ hf => hf.elim⟩
 ·rcases hj with hj | ⟨c, e, he, hj⟩
  ·exact Or.inl hj
  ·refine Or.inr ⟨lt_of_block hj, fun e2 => ?_, fun i hi hb => ?_⟩
   ·rw [e2, h1.blk] at hj
    simp only [Option.some.injEq, Obj.cells.injEq, and_true] at hj
    rw [← hj.2] at he
    exact absurd he (by decide)
   ·rcases (h1.own i hi).2 with ⟨hv, _⟩ | ⟨g', c', cur, hv, _, hg', _⟩
    ·rw [hv] at hb
     simp [Value.ownBlock] at hb
    ·rw [hv] at hb
     simp only [Value.ownBlock, Option.some.injEq] at hb
     subst hb
     rw [hg'] at hj
     simp only [Option.some.injEq, Obj.cells.injEq, and_true] at hj
     rw [← hj.2, planT_row hi] at he
     cases he
 ·have hst := h3 w' hs (fun j hj => hF j (Or.inl hj))
  refine ⟨fun p hp => ?_, hst.ns, hst.vs, hst.ls⟩
  rcases List.mem_append.1 hp with hp | hp
  ·exact hst.ps p hp
  ·simp only [List.mem_singleton] at hp
   subst hp
   exact ⟨(hx.keep (fun j c e he hj => hF j (Or.inr ⟨c, e, he, hj⟩))).plan, (hy.keep (fun j c e he hj => hF j (Or.inr ⟨c, e, he, hj⟩))).plan⟩
theorem rowX_ps (h : Hist) (gx gy : Nat) (its : List PItem) : ∀ i, i < 6 → updX (rowX h) 0 (rowX h 0 ++ [.pointer (some ⟨gx, 0, none⟩), .pointer (some ⟨gy, 0, none⟩)]) i = rowX { h with ps := h.ps ++ [(gx, gy, its)] } i := by
 intro i hi
 rcases (by omega : i = 0 ∨ i = 1 ∨ i = 2 ∨ i = 3 ∨ i = 4 ∨ i = 5) with rfl | rfl | rfl | rfl | rfl | rfl <;> simp [updX, rowX]
theorem LawG.count0 {w : World} {g : Nat} {h : Hist} {X F : Nat → Prop} {r : Nat → LRow} (k : LawG w g (rowX h) h X F r) : (r 0).n = h.ps.length := by
 have := (k.1.own 0 (by omega)).1
 rw [k.2.1 0 (by omega)] at this
 simp only [rowX, wsz] at this
 rw [flat_len _ 2 (fun _ => rfl)] at this
 omega
structure More (h h' : Hist) : Prop where
 ps : h'.ps.length ≤ h.ps.length + 1
 vs : h'.vs.length ≤ h.vs.length + 4
 ls : h'.ls.length ≤ h.ls.length + 1
theorem More.refl (h : Hist) : More h h := ⟨by omega, by omega, by omega⟩
def StepOf (g : Nat) (h : Hist) (w : World) (e : Ending) (w' : World) : Prop := e = .returned (.bool true) ∧ Below g w w' ∧ ∃ h', More h h' ∧ LawAt w' g h' (fun _ => False)
def pickL (c : Int) (n : Nat) : Nat := ((if c < 0 then -(c + 1) else c) % (n : Int)).toNat
theorem pickL_lt {c : Int} {n : Nat} (hn : 0 < n) : pickL c n < n := by
 unfold pickL
 have h4 := Int.emod_lt_of_pos (if c < 0 then -(c + 1) else c) (show (0 : Int) < n by omega)
 have h3 := Int.emod_nonneg (if c < 0 then -(c + 1) else c) (show (n : Int) ≠ 0 by omega)
 omega
set_option maxHeartbeats 400000 in
theorem lpick_any (c : Int) (n : Nat) (w : World) (hn : 0 < n) (hn2 : n ≤ 9223372036854775807) (h1 : -9223372036854775808 ≤ c) (h2 : c ≤ 9223372036854775807) :
  Calls Tryz.prog 47 #[.int .i64 c, .int .i64 (n : Int)] w fun e w' => e = .returned (.int .i64 ((pickL c n : Nat) : Int)) ∧ w' = w := by
 have hz : ((n : Int) == 0) = false := by rw [beq_eq_false_iff_ne]; omega
 have h3 := Int.emod_nonneg (if c < 0 then -(c + 1) else c) (show (n : Int) ≠ 0 by omega)
 by_cases hc : c < 0
 ·have hpos : 0 ≤ -(c + 1) := by omega
  have HI : Hid (((pickL c n : Nat) : Int) = (-(c + 1)) % (n : Int)) := hide (by
   unfold pickL
   rw [Int.toNat_of_nonneg h3, if_pos hc])
  clear h3
  go_enter Tryz.func47, Tryz.ntmps47
  go_wp2
  go_ret
  refine ⟨?_, rfl⟩
  rw [uh HI, ← Int.tmod_eq_emod_of_nonneg hpos, Int.neg_tmod]
  rfl
 ·have hpos : 0 ≤ c := by omega
  have HI : Hid (((pickL c n : Nat) : Int) = c % (n : Int)) := hide (by
   unfold pickL
   rw [Int.toNat_of_nonneg h3, if_neg hc])
  clear h3
  go_enter Tryz.func47, Tryz.ntmps47
  go_wp2
  go_ret
  refine ⟨?_, rfl⟩
  rw [uh HI, ← Int.tmod_eq_emod_of_nonneg hpos]
  rfl
set_option maxRecDepth 100000 in
set_option maxHeartbeats 3200000 in
theorem step_new (g : Nat) (h : Hist) (p c : Int) (s : ByteArray) (vo : Option Addr) (vn vc : Nat) (w : World) (k : LawAt w g h (fun _ => False)) (hs : s.size ≤ maxLen) (hps : (h.ps.length + 1 + (h.ps.length + 1) / 4 + 192) * 16 ≤ 281474976710656) (hpm : h.ps.length + 1 ≤ maxLen) :
  Calls Tryz.prog 27 #[.pointer (some ⟨g, 0, none⟩), .agg #[.int .i64 2, .int .i64 p, .string s, .int .i64 c, .slice vo vn vc]] w (StepOf g h w) := by
 have hgl := k.gt
 obtain ⟨w0, hw0⟩ : ∃ w0, w0 = w.alloc (.cells #[.int .i64 2, .int .i64 p, .string s, .int .i64 c, .slice vo vn vc] 78) := ⟨_, rfl⟩
 have hb0 : Below w.heap.size w w0 := by rw [hw0]; exact (Below.refl _ w).alloc (Nat.le_refl _) _
 have HN0 : Hid (w0.heap[w.heap.size]? = some (.cells #[.int .i64 2, .int .i64 p, .string s, .int .i64 c, .slice vo vn vc] 78)) := hide (by rw [hw0]; exact alloc_last w _)
 have HB0 := hide hb0
 have HK := hide k
 have HS := hide hs
 have HPS := hide hps
 have HPM := hide hpm
 clear k hs hps hpm hb0
 go_enter Tryz.func27, Tryz.ntmps27
 go_wp2_with fail
 rw [← hw0]
 clear hw0
 refine (new_own s _ (uh HS)).mono ?_
 rintro e w1 (⟨n, ce, hpl, rfl, hb1⟩ | ⟨its, gx, hpl, rfl, hb1, hgx, hox⟩)
 ·have hN1 := (hb1.block _ (lt_of_block (uh HN0))).trans (uh HN0)
  obtain ⟨⟨_, _, k2, _, _⟩, -⟩ := cells5 hN1
  have hs1 := lt_of_block hN1
  have HB1 := hide (below_after (uh HB0) hb1)
  have HPL := hide hpl
  clear hb1 hN1 hpl
  go_wp2_with fail
  refine (rnew_own s _).mono ?_
  rintro e w2 (⟨n2, ce2, hpl2, rfl, hb2⟩ | ⟨its2, gy, hpl2, rfl, hb2, hgy, hoy⟩)
  ·rw [uh HPL] at hpl2
   simp only [Sum.inl.injEq, Prod.mk.injEq] at hpl2
   obtain ⟨_, rfl⟩ := hpl2
   have HB2 := hide (below_after (uh HB1) hb2)
   clear hb2
   go_wp2_with fail
   refine (num_any _ _).mono ?_
   rintro e w8 ⟨rfl, rfl⟩
   go_wp2_with fail
   refine (num_any _ _).mono ?_
   rintro e w9 ⟨rfl, rfl⟩
   go_wp2_with fail
   go_ret
   exact ⟨rfl, (uh HB2).mono (Nat.le_of_lt hgl), h, More.refl h, ((uh HK).below (uh HB2)).weaken (fun _ hf => hf.elim)⟩
  ·rw [uh HPL] at hpl2
   cases hpl2
 ·have hN1 := (hb1.block _ (lt_of_block (uh HN0))).trans (uh HN0)
  obtain ⟨⟨_, _, k2, _, _⟩, -⟩ := cells5 hN1
  have hs1 := lt_of_block hN1
  have HB1 := hide (below_after (uh HB0) hb1)
  have HPL := hide hpl
  have HOX := hide hox
  clear hb1 hN1 hpl hox hgx
  go_wp2_with fail
  refine (rnew_own s _).mono ?_
  rintro e w2 (⟨n2, ce2, hpl2, rfl, hb2⟩ | ⟨its2, gy, hpl2, rfl, hb2, hgy, hoy⟩)
  ·rw [uh HPL] at hpl2
   cases hpl2
  ·rw [uh HPL] at hpl2
   simp only [Sum.inr.injEq] at hpl2
   subst hpl2
   obtain ⟨F, r, kG⟩ := (uh HK).below (below_after (uh HB1) hb2)
   have kP := kG.plan ((uh HOX).below hb2) hoy
   have HB2 := hide (below_after (uh HB1) hb2)
   obtain ⟨o0, p0, h0v⟩ := kG.1.form (i := 0) (by omega)
   rw [kG.count0] at h0v
   obtain ⟨⟨c0, _, _, _, _, _⟩, f0, _⟩ := kP.1.cells
   have own0 : w2.ownsRow g 100 2 (.slice o0 h.ps.length p0) h.ps.length (rowX h 0) := by
    have := kG.1.own 0 (by omega)
    rw [kG.2.1 0 (by omega), kG.count0, h0v] at this
    exact this
   rw [h0v] at c0
   have H0V := hide h0v
   have HKP := hide kP
   have HO0 := hide own0
   have hgl2 := lt_of_block kP.1.blk
   have HG2 := hide (Nat.le_of_lt hgl2)
   obtain ⟨i2, hi2, z0, z1, z2⟩ := info_parts Tryz.info_pair
   clear hb2 kG kP own0 h0v hgy hoy k2
   go_wp2_with fail
   refine (num_any _ _).mono ?_
   rintro e w8 ⟨rfl, rfl⟩
   go_wp2_with fail
   refine (num_any _ _).mono ?_
   rintro e w9 ⟨rfl, rfl⟩
   go_wp2_with (at_builtin; refine wpList_append_told _ (by rfl) _ _ _ (by rfl) g 100 i2 _ 2 16 Tryz.underlying70 hi2 z0 z1 z2 rfl (by decide) (.slice o0 h.ps.length p0) h.ps.length (rowX h 0) (by rfl) ((uh HO0).alloc _) ⟨w9.heap.size, 0, none⟩ 1 1 [.pointer (some ⟨gx, 0, none⟩), .pointer (some ⟨gy, 0, none⟩)] (by rfl) (by rfl) (World.news_of_block (cs := #[.pointer (some ⟨gx, 0, none⟩), .pointer (some ⟨gy, 0, none⟩)]) (t := 100) (fr := (0, 0)) (heap_alloc_new w9 _)) (by simp [Value.oneCell']) (by decide) (uh HPM) (uh HPS) (Nat.le_trans (uh HG2) ((Below.refl g w9).alloc (uh HG2) _).size) (w9.heap.size + 1) (by simp) ?_; intro g4 c4 w6 hown7 hgrow7 hat7 hrow7; rw [← uh H0V] at hgrow7 hat7; have A4 := hide (((uh HKP).below ((Below.refl _ w9).alloc (Nat.le_refl _) _)).push (i := 0) (E := fun _ => False) (by decide) hgrow7 hown7 hat7 (by simp) (fun _ hf => hf.elim) (fun w' hs hF => ((uh HKP).below ((Below.refl _ w9).alloc (Nat.le_refl _) _)).2.2.1 w' hs (fun j hj => hF j (Or.inl hj)))); obtain ⟨⟨ya, _, _, _, _, _⟩, yc, _⟩ := ((uh HKP).below ((Below.refl _ w9).alloc (Nat.le_refl _) _)).cells (i := 0) (by decide) hgrow7; rw [uh H0V] at ya; have yg := Nat.lt_of_lt_of_le (lt_of_block ((uh HKP).below ((Below.refl _ w9).alloc (Nat.le_refl _) _)).1.blk) hgrow7.size; clear hown7 hgrow7 hat7 hrow7)
   go_ret
   obtain ⟨a1, a2, _⟩ := uh A4
   refine ⟨rfl, ((uh HB2).mono (Nat.le_of_lt hgl)).trans ((Below.alloc (Below.refl g w9) (uh HG2) _).trans a2), _, ⟨by simp, by simp, by simp⟩, LawAt.weaken (a1.at (rowX_ps h gx gy _)) (fun _ hf => hf.elim)⟩
end Go.Proofs.YtdgbmcbkbkbdoaaGreatDoor
namespace Go.Proofs.YtdgbmcbkbkbdoaaGreatDoor
open Go.RowKit
set_option maxRecDepth 100000 in
set_option maxHeartbeats 1600000 in
theorem step_plain (g : Nat) (h : Hist) (p c : Int) (s : ByteArray) (vo : Option Addr) (vn vc : Nat) (w : World) (k : LawAt w g h (fun _ => False)) (hs : s.size ≤ maxLen) (ht : Tab w) :
  Calls Tryz.prog 27 #[.pointer (some ⟨g, 0, none⟩), .agg #[.int .i64 1, .int .i64 p, .string s, .int .i64 c, .slice vo vn vc]] w (StepOf g h w) := by
 have hgl := k.gt
 have hb0 : Below w.heap.size w (w.alloc (.cells #[.int .i64 1, .int .i64 p, .string s, .int .i64 c, .slice vo vn vc] 78)) := (Below.refl _ w).alloc (Nat.le_refl _) _
 have HT0 := hide (tab_below hb0 ht)
 have HB0 := hide hb0
 have HM := hide hs
 have HK := hide k
 clear hb0 ht hs k
 go_enter Tryz.func27, Tryz.ntmps27
 go_wp2_with fail
 refine (plain_any s _ (uh HM) (uh HT0)).mono ?_
 rintro e w1 ⟨rfl, hb1⟩
 have hr1 := (hb1.block w.heap.size (by simp)).trans (alloc_last w _)
 obtain ⟨⟨k0, k1, k2, k3, k4⟩, -⟩ := cells5 hr1
 have HB1 := hide (below_after (uh HB0) hb1)
 clear hb1 hr1
 obtain ⟨r0, r1, r2, hr⟩ : ∃ r0 r1 r2, plainR s = (r0, r1, r2) := ⟨_, _, _, rfl⟩
 have HR := hide hr
 rw [hr]
 clear hr
 simp only
 go_wp2_with fail
 refine (rplain_any s _).mono ?_
 rintro e w2 ⟨rfl, hb2⟩
 rw [uh HR]
 simp only
 have HB2 := hide (below_after (uh HB1) hb2)
 clear hb2 k0 k1 k2 k3 k4
 go_wp2_with fail
 refine (num_any r2 _).mono ?_
 rintro e w3 ⟨rfl, rfl⟩
 go_wp2_with fail
 refine (num_any r2 _).mono ?_
 rintro e w3 ⟨rfl, rfl⟩
 go_wp2_with fail
 go_ret
 exact ⟨rfl, (uh HB2).mono (Nat.le_of_lt hgl), h, More.refl h, ((uh HK).below (uh HB2)).weaken (fun _ hf => hf.elim)⟩
set_option maxRecDepth 100000 in
set_option maxHeartbeats 3200000 in
theorem step_more (g : Nat) (h : Hist) (q p c : Int) (s : ByteArray) (vo : Option Addr) (vn vc : Nat) (vals : List Int) (w : World) (k : LawAt w g h (fun _ => False)) (hq5 : q ≤ 5) (hq1 : q ≠ 1) (hq2 : q ≠ 2) (hp1 : -9223372036854775808 ≤ p) (hp2 : p ≤ 9223372036854775807)
  (hv : InSl w (.slice vo vn vc) vals)
  (hl : (vals.length + 8) * 8 ≤ 140737488355328) (hls : (h.ls.length + 1 + (h.ls.length + 1) / 4 + 192) * 24 ≤ 281474976710656) (hvs : (h.vs.length + 4 + (h.vs.length + 4) / 4 + 192) * 24 ≤ 281474976710656) (ht : Tab w) :
  Calls Tryz.prog 27 #[.pointer (some ⟨g, 0, none⟩), .agg #[.int .i64 q, .int .i64 p, .string s, .int .i64 c, .slice vo vn vc]] w (StepOf g h w) := by
 have hgl := k.gt
 have e1 : (q == 1) = false := by rw [beq_eq_false_iff_ne]; exact hq1
 have e2 : (q == 2) = false := by rw [beq_eq_false_iff_ne]; exact hq2
 obtain ⟨v0, _, _, _, _, _, ⟨c0, -, -, -, -, -⟩, s0, -, -, -, -, -⟩ := k.read
 obtain ⟨o0, p0, rfl⟩ := s0.form
 have hmx := s0.len_le
 obtain ⟨w0, hw0⟩ : ∃ w0, w0 = w.alloc (.cells #[.int .i64 q, .int .i64 p, .string s, .int .i64 c, .slice vo vn vc] 78) := ⟨_, rfl⟩
 have hb0 : Below w.heap.size w w0 := by rw [hw0]; exact (Below.refl _ w).alloc (Nat.le_refl _) _
 have HN0 : Hid (w0.heap[w.heap.size]? = some (.cells #[.int .i64 q, .int .i64 p, .string s, .int .i64 c, .slice vo vn vc] 78)) := hide (by rw [hw0]; exact alloc_last w _)
 have HB0 := hide hb0
 have HK := hide k
 by_cases hz : h.ps.length = 0
 ·have l0 : ((h.ps.length : Int) == 0) = true := by rw [hz]; rfl
  clear k hv hl hls hvs ht hb0 s0 hw0
  have HB1 : Hid (Below w.heap.size w (w.alloc (.cells #[.int .i64 q, .int .i64 p, .string s, .int .i64 c, .slice vo vn vc] 78))) := hide ((Below.refl _ w).alloc (Nat.le_refl _) _)
  clear hz
  go_enter Tryz.func27, Tryz.ntmps27
  go_wp2_with fail
  go_ret
  exact ⟨rfl, (uh HB1).mono (Nat.le_of_lt hgl), h, More.refl h, ((uh HK).below (uh HB1)).weaken (fun _ hf => hf.elim)⟩
 ·have l0 : ((h.ps.length : Int) == 0) = false := by rw [beq_eq_false_iff_ne]; omega
  have hpos : 0 < h.ps.length := by omega
  have c0' : w0.cell? ⟨g, 0, none⟩ = some (.slice o0 h.ps.length p0) := (hb0.cell (p := ⟨g, 0, none⟩) hgl).trans c0
  have hgl0 : g < w0.heap.size := Nat.lt_of_lt_of_le hgl hb0.size
  obtain ⟨gp, rfl, -, -, hgp⟩ := (s0.below hb0).at2 hpos
  have HPC : Hid (∀ i, i < h.ps.length → ∃ gx gy its, (gx, gy, its) ∈ h.ps ∧ w0.cell? ⟨gp, i * 2, none⟩ = some (.pointer (some ⟨gx, 0, none⟩)) ∧ w0.cell? ⟨gp, i * 2 + 1, none⟩ = some (.pointer (some ⟨gy, 0, none⟩))) := hide (fun i hi => by
   obtain ⟨gp', hgp', b0, b1, _⟩ := (s0.below hb0).at2 hi
   simp only [Option.some.injEq, Addr.mk.injEq, and_true] at hgp'
   subst hgp'
   have f0 := flat_at (fun p : Nat × Nat × List PItem => [Value.pointer (some ⟨p.1, 0, none⟩), Value.pointer (some ⟨p.2.1, 0, none⟩)]) 2 (fun _ => rfl) h.ps i 0 hi (by omega)
   have f1 := flat_at (fun p : Nat × Nat × List PItem => [Value.pointer (some ⟨p.1, 0, none⟩), Value.pointer (some ⟨p.2.1, 0, none⟩)]) 2 (fun _ => rfl) h.ps i 1 hi (by omega)
   rw [Nat.add_zero] at f0
   exact ⟨h.ps[i].1, h.ps[i].2.1, h.ps[i].2.2, List.getElem_mem hi, b0.trans f0, b1.trans f1⟩)
  obtain ⟨⟨k0, k1, k2, k3, k4⟩, -⟩ := cells5 (uh HN0)
  have hs0 := lt_of_block (uh HN0)
  have HV := hide hv
  have HL := hide hl
  have HLS := hide hls
  have HVS := hide hvs
  have HT := hide ht
  clear k hv hl hls hvs ht hb0 s0 hz
  go_enter Tryz.func27, Tryz.ntmps27
  go_wp2_with fail
  rw [← hw0]
  clear hw0
  obtain ⟨i, hpi⟩ : ∃ i, pickL p h.ps.length = i := ⟨_, rfl⟩
  have hi : i < h.ps.length := by rw [← hpi]; exact pickL_lt hpos
  obtain ⟨gx, gy, its, hmem, b0, b1⟩ := uh HPC i hi
  have hic : (i : Int) < h.ps.length := by omega
  have HPI := hide hpi
  have hn1 := World.new_ne w0 ⟨g, 0, none⟩ c0'
  have hn2 := World.new_ne w0 ⟨w.heap.size, 1, none⟩ k1
  have hn3 := World.new_ne w0 ⟨gp, i * 2, none⟩ b0
  clear hpi
  obtain ⟨w2, hw2⟩ : ∃ w2, w2 = (w0.alloc (.cells #[.pointer (some ⟨gx, 0, none⟩), .pointer (some ⟨gy, 0, none⟩)] 100)).drew := ⟨_, rfl⟩
  have HB2 : Hid (Below w0.heap.size w0 w2) := hide (by rw [hw2]; exact ((Below.refl _ w0).alloc (Nat.le_refl _) _).drew)
  have HNP : Hid (w2.heap[w0.heap.size]? = some (.cells #[.pointer (some ⟨gx, 0, none⟩), .pointer (some ⟨gy, 0, none⟩)] 100)) := hide (by rw [hw2]; exact alloc_last w0 _)
  have HN2 := hide (((uh HB2).block _ hs0).trans (uh HN0))
  have HB02 := hide (below_after (uh HB0) (uh HB2))
  have HK2 := hide (((uh HK).below (uh HB02)).weaken (Y := fun _ => False) (fun _ hf => hf.elim))
  have HPX := hide ((uh HK2).still.ps _ hmem).1
  have HPY := hide ((uh HK2).still.ps _ hmem).2
  have HBG := hide ((uh HB02).mono (Nat.le_of_lt hgl))
  have HMM := hide hmem
  clear hmem
  go_region_held3 (fun w' => w'.cell? ⟨g, 0, none⟩ = some (.slice (some ⟨gp, 0, none⟩) h.ps.length p0) ∧ w'.cell? ⟨w.heap.size, 1, none⟩ = some (.int .i64 p) ∧ w'.cell? ⟨gp, i * 2, none⟩ = some (.pointer (some ⟨gx, 0, none⟩)) ∧ w'.cell? ⟨gp, i * 2 + 1, none⟩ = some (.pointer (some ⟨gy, 0, none⟩))) (go_keep) (first | (go_at_call 47; refine (lpick_any p h.ps.length _ hpos hmx hp1 hp2).mono ?_; rintro e w5 ⟨rfl, rfl⟩; rw [uh HPI]))
  all_goals
   rw [← hw2]
   clear hw2 c0 c0' k0 k1 k2 k3 k4 b0 b1 hn1 hn2 hn3
   obtain ⟨⟨m0, m1, m2, m3, m4⟩, -⟩ := cells5 (uh HN2)
   obtain ⟨⟨n0, n1⟩, -⟩ := box2 (uh HNP)
   have hs2 := lt_of_block (uh HN2)
   have hsp := lt_of_block (uh HNP)
   by_cases h3 : q = 3
   ·subst h3
    go_wp2_with fail
    refine (label_any gx its s _ (uh HPX)).mono ?_
    rintro e w3 ⟨rfl, hb3⟩
    obtain ⟨la, le, hlr⟩ : ∃ la le, labelP its s = (la, le) := ⟨_, _, rfl⟩
    have HLR := hide hlr
    rw [hlr]
    have hn3 := (hb3.block _ hs2).trans (uh HN2)
    have hp3 := (hb3.block _ hsp).trans (uh HNP)
    clear m0 m1 m2 m3 m4 n0 n1 hlr
    obtain ⟨⟨_, _, m2, _, _⟩, -⟩ := cells5 hn3
    obtain ⟨⟨_, n1⟩, -⟩ := box2 hp3
    have hs3 := lt_of_block hn3
    have hsp3 := lt_of_block hp3
    have HB3 := hide hb3
    clear hb3 hn3 hp3
    simp only
    go_wp2_with fail
    refine (rLabel_any gy its s _ ((uh HPY).below (uh HB3))).mono ?_
    rintro e w4 ⟨rfl, hb4⟩
    rw [uh HLR]
    have HB4 := hide (below_after (uh HB3) hb4)
    clear hb4 m2 n1
    simp only
    go_wp2_with fail
    refine (num_any _ _).mono ?_
    rintro e w8 ⟨rfl, rfl⟩
    go_wp2_with fail
    refine (num_any _ _).mono ?_
    rintro e w9 ⟨rfl, rfl⟩
    go_wp2_with fail
    go_ret
    exact ⟨by simp, (uh HBG).trans ((uh HB4).mono (Nat.le_of_lt (uh HK2).gt)), h, More.refl h, ((uh HK2).below (uh HB4)).weaken (fun _ hf => hf.elim)⟩
   ·have e3 : (q == 3) = false := by rw [beq_eq_false_iff_ne]; exact h3
    by_cases h4 : q = 4
    ·subst h4
     go_wp2_with fail
     refine (evals_any g h gx gy its _ vals _ (uh HK2) (uh HMM) ((uh HV).below (uh HB02)) (uh HL) (uh HLS) (uh HVS)).mono ?_
     rintro e w3 ⟨rfl, hb3, l1, l2, hl1, hl2, hk3⟩
     have HB3 := hide ((uh HBG).trans hb3)
     have HK3 := hide hk3
     have HM3 : Hid (More h { h with ls := h.ls ++ l1, vs := h.vs ++ l2 }) := hide ⟨by simp, by simp [hl2], by simp [hl1]⟩
     clear hb3 hk3 hl1 hl2
     go_wp2_with fail
     go_ret
     exact ⟨rfl, uh HB3, _, uh HM3, uh HK3⟩
    ·have e4 : (q == 4) = false := by rw [beq_eq_false_iff_ne]; exact h4
     by_cases h5 : q = 5
     ·subst h5
      go_wp2_with fail
      refine (explains_any g h gx gy its c _ vals _ (uh HK2) (uh HMM) ((uh HV).below (uh HB02)) (uh HL) (uh HLS) (tab_below (uh HB02) (uh HT))).mono ?_
      rintro e w3 ⟨rfl, hb3, l1, hl1, hk3⟩
      have HB3 := hide ((uh HBG).trans hb3)
      have HK3 := hide hk3
      have HM3 : Hid (More h { h with ls := h.ls ++ l1 }) := hide ⟨by simp, by simp, by simp [hl1]⟩
      clear hb3 hk3 hl1
      go_wp2_with fail
      go_ret
      exact ⟨rfl, uh HB3, _, uh HM3, uh HK3⟩
     ·have e5 : (q == 5) = false := by rw [beq_eq_false_iff_ne]; exact h5
      have e6 : (q == 6) = false := by rw [beq_eq_false_iff_ne]; omega
      have e7 : (q == 7) = false := by rw [beq_eq_false_iff_ne]; omega
      go_wp2_with fail
      go_ret
      exact ⟨rfl, uh HBG, h, More.refl h, uh HK2⟩
end Go.Proofs.YtdgbmcbkbkbdoaaGreatDoor
