import Derived.Test.YthnggjaecngbiaaGreatDoorRfQ
namespace Go.Proofs.YthnggjaecngbiaaGreatDoor
open Go.RowKit
set_option maxRecDepth 100000 in
set_option maxHeartbeats 1600000 in
theorem step_plain (g : Nat) (h : Hist) (p c : Int) (s : ByteArray) (vo : Option Addr) (vn vc : Nat) (w : World) (k : LawAt w g h (fun _ => False)) (hs : s.size ≤ maxLen) (ht : Tab w) :
  Calls Tryz.prog 33 #[.pointer (some ⟨g, 0, none⟩), .agg #[.int .i64 1, .int .i64 p, .string s, .int .i64 c, .slice vo vn vc]] w (StepOf g h w) := by
 have hgl := k.gt
 have hb0 : Below w.heap.size w (w.alloc (.cells #[.int .i64 1, .int .i64 p, .string s, .int .i64 c, .slice vo vn vc] 82)) := (Below.refl _ w).alloc (Nat.le_refl _) _
 have HT0 := hide (tab_below hb0 ht)
 have HB0 := hide hb0
 have HM := hide hs
 have HK := hide k
 clear hb0 ht hs k
 go_enter Tryz.func33, Tryz.ntmps33
 go_wp2_with fail
 refine (plain_any s _ (uh HM) (uh HT0)).mono ?_
 rintro e w1 ⟨rfl, hb1⟩
 have hr1 := (hb1.block w.heap.size (by simp)).trans (alloc_last w _)
 obtain ⟨⟨k0, k1, k2, k3, k4⟩, -⟩ := cells5 hr1
 have HB1 := hide (below_after (uh HB0) hb1)
 clear hb1 hr1
 obtain ⟨r0, r1, r2, hr⟩ : ∃ r0 r1 r2, plainR s = (r0, r1, r2) := ⟨_, _, _, rfl⟩
 have HR := hide hr
 rw [hr]
 clear hr
 simp only
 go_wp2_with fail
 refine (rplain_any s _).mono ?_
 rintro e w2 ⟨rfl, hb2⟩
 rw [uh HR]
 simp only
 have HB2 := hide (below_after (uh HB1) hb2)
 clear hb2 k0 k1 k2 k3 k4
 go_wp2_with fail
 refine (num_any r2 _).mono ?_
 rintro e w3 ⟨rfl, rfl⟩
 go_wp2_with fail
 refine (num_any r2 _).mono ?_
 rintro e w3 ⟨rfl, rfl⟩
 go_wp2_with fail
 go_ret
 exact ⟨rfl, (uh HB2).mono (Nat.le_of_lt hgl), h, More.refl h, ((uh HK).below (uh HB2)).weaken (fun _ hf => hf.elim)⟩
set_option maxRecDepth 100000 in
set_option maxHeartbeats 3200000 in
theorem step_more (g : Nat) (h : Hist) (q p c : Int) (s : ByteArray) (vo : Option Addr) (vn vc : Nat) (vals : List Int) (w : World) (k : LawAt w g h (fun _ => False)) (hq5 : q ≤ 5) (hq1 : q ≠ 1) (hq2 : q ≠ 2) (hp1 : -9223372036854775808 ≤ p) (hp2 : p ≤ 9223372036854775807)
  (hv : InSl w (.slice vo vn vc) vals)
  (hl : (vals.length + 8) * 8 ≤ 140737488355328) (hls : (h.ls.length + 1 + (h.ls.length + 1) / 4 + 192) * 24 ≤ 281474976710656) (hvs : (h.vs.length + 4 + (h.vs.length + 4) / 4 + 192) * 24 ≤ 281474976710656) (ht : Tab w) :
  Calls Tryz.prog 33 #[.pointer (some ⟨g, 0, none⟩), .agg #[.int .i64 q, .int .i64 p, .string s, .int .i64 c, .slice vo vn vc]] w (StepOf g h w) := by
 have hgl := k.gt
 have e1 : (q == 1) = false := by rw [beq_eq_false_iff_ne]; exact hq1
 have e2 : (q == 2) = false := by rw [beq_eq_false_iff_ne]; exact hq2
 obtain ⟨v0, _, _, _, _, _, ⟨c0, -, -, -, -, -⟩, s0, -, -, -, -, -⟩ := k.read
 obtain ⟨o0, p0, rfl⟩ := s0.form
 have hmx := s0.len_le
 obtain ⟨w0, hw0⟩ : ∃ w0, w0 = w.alloc (.cells #[.int .i64 q, .int .i64 p, .string s, .int .i64 c, .slice vo vn vc] 82) := ⟨_, rfl⟩
 have hb0 : Below w.heap.size w w0 := by rw [hw0]; exact (Below.refl _ w).alloc (Nat.le_refl _) _
 have HN0 : Hid (w0.heap[w.heap.size]? = some (.cells #[.int .i64 q, .int .i64 p, .string s, .int .i64 c, .slice vo vn vc] 82)) := hide (by rw [hw0]; exact alloc_last w _)
 have HB0 := hide hb0
 have HK := hide k
 by_cases hz : h.ps.length = 0
 ·have l0 : ((h.ps.length : Int) == 0) = true := by rw [hz]; rfl
  clear k hv hl hls hvs ht hb0 s0 hw0
  have HB1 : Hid (Below w.heap.size w (w.alloc (.cells #[.int .i64 q, .int .i64 p, .string s, .int .i64 c, .slice vo vn vc] 82))) := hide ((Below.refl _ w).alloc (Nat.le_refl _) _)
  clear hz
  go_enter Tryz.func33, Tryz.ntmps33
  go_wp2_with fail
  go_ret
  exact ⟨rfl, (uh HB1).mono (Nat.le_of_lt hgl), h, More.refl h, ((uh HK).below (uh HB1)).weaken (fun _ hf => hf.elim)⟩
 ·have l0 : ((h.ps.length : Int) == 0) = false := by rw [beq_eq_false_iff_ne]; omega
  have hpos : 0 < h.ps.length := by omega
  have c0' : w0.cell? ⟨g, 0, none⟩ = some (.slice o0 h.ps.length p0) := (hb0.cell (p := ⟨g, 0, none⟩) hgl).trans c0
  have hgl0 : g < w0.heap.size := Nat.lt_of_lt_of_le hgl hb0.size
  obtain ⟨gp, rfl, -, -, hgp⟩ := (s0.below hb0).at2 hpos
  have HPC : Hid (∀ i, i < h.ps.length → ∃ gx gy its, (gx, gy, its) ∈ h.ps ∧ w0.cell? ⟨gp, i * 2, none⟩ = some (.pointer (some ⟨gx, 0, none⟩)) ∧ w0.cell? ⟨gp, i * 2 + 1, none⟩ = some (.pointer (some ⟨gy, 0, none⟩))) := hide (fun i hi => by
   obtain ⟨gp', hgp', b0, b1, _⟩ := (s0.below hb0).at2 hi
   simp only [Option.some.injEq, Addr.mk.injEq, and_true] at hgp'
   subst hgp'
   have f0 := flat_at (fun p : Nat × Nat × List PItem => [Value.pointer (some ⟨p.1, 0, none⟩), Value.pointer (some ⟨p.2.1, 0, none⟩)]) 2 (fun _ => rfl) h.ps i 0 hi (by omega)
   have f1 := flat_at (fun p : Nat × Nat × List PItem => [Value.pointer (some ⟨p.1, 0, none⟩), Value.pointer (some ⟨p.2.1, 0, none⟩)]) 2 (fun _ => rfl) h.ps i 1 hi (by omega)
   rw [Nat.add_zero] at f0
   exact ⟨h.ps[i].1, h.ps[i].2.1, h.ps[i].2.2, List.getElem_mem hi, b0.trans f0, b1.trans f1⟩)
  obtain ⟨⟨k0, k1, k2, k3, k4⟩, -⟩ := cells5 (uh HN0)
  have hs0 := lt_of_block (uh HN0)
  have HV := hide hv
  have HL := hide hl
  have HLS := hide hls
  have HVS := hide hvs
  have HT := hide ht
  clear k hv hl hls hvs ht hb0 s0 hz
  go_enter Tryz.func33, Tryz.ntmps33
  go_wp2_with fail
  rw [← hw0]
  clear hw0
  obtain ⟨i, hpi⟩ : ∃ i, pickL p h.ps.length = i := ⟨_, rfl⟩
  have hi : i < h.ps.length := by rw [← hpi]; exact pickL_lt hpos
  obtain ⟨gx, gy, its, hmem, b0, b1⟩ := uh HPC i hi
  have hic : (i : Int) < h.ps.length := by omega
  have HPI := hide hpi
  have hn1 := World.new_ne w0 ⟨g, 0, none⟩ c0'
  have hn2 := World.new_ne w0 ⟨w.heap.size, 1, none⟩ k1
  have hn3 := World.new_ne w0 ⟨gp, i * 2, none⟩ b0
  clear hpi
  obtain ⟨w2, hw2⟩ : ∃ w2, w2 = (w0.alloc (.cells #[.pointer (some ⟨gx, 0, none⟩), .pointer (some ⟨gy, 0, none⟩)] 105)).drew := ⟨_, rfl⟩
  have HB2 : Hid (Below w0.heap.size w0 w2) := hide (by rw [hw2]; exact ((Below.refl _ w0).alloc (Nat.le_refl _) _).drew)
  have HNP : Hid (w2.heap[w0.heap.size]? = some (.cells #[.pointer (some ⟨gx, 0, none⟩), .pointer (some ⟨gy, 0, none⟩)] 105)) := hide (by rw [hw2]; exact alloc_last w0 _)
  have HN2 := hide (((uh HB2).block _ hs0).trans (uh HN0))
  have HB02 := hide (below_after (uh HB0) (uh HB2))
  have HK2 := hide (((uh HK).below (uh HB02)).weaken (Y := fun _ => False) (fun _ hf => hf.elim))
  have HPX := hide ((uh HK2).still.ps _ hmem).1
  have HPY := hide ((uh HK2).still.ps _ hmem).2
  have HBG := hide ((uh HB02).mono (Nat.le_of_lt hgl))
  have HMM := hide hmem
  clear hmem
  go_region_held3 (fun w' => w'.cell? ⟨g, 0, none⟩ = some (.slice (some ⟨gp, 0, none⟩) h.ps.length p0) ∧ w'.cell? ⟨w.heap.size, 1, none⟩ = some (.int .i64 p) ∧ w'.cell? ⟨gp, i * 2, none⟩ = some (.pointer (some ⟨gx, 0, none⟩)) ∧ w'.cell? ⟨gp, i * 2 + 1, none⟩ = some (.pointer (some ⟨gy, 0, none⟩))) (go_keep) (first | (go_at_call 56; refine (lpick_any p h.ps.length _ hpos hmx hp1 hp2).mono ?_; rintro e w5 ⟨rfl, rfl⟩; rw [uh HPI]))
  all_goals
   rw [← hw2]
   clear hw2 c0 c0' k0 k1 k2 k3 k4 b0 b1 hn1 hn2 hn3
   obtain ⟨⟨m0, m1, m2, m3, m4⟩, -⟩ := cells5 (uh HN2)
   obtain ⟨⟨n0, n1⟩, -⟩ := box2 (uh HNP)
   have hs2 := lt_of_block (uh HN2)
   have hsp := lt_of_block (uh HNP)
   by_cases h3 : q = 3
   ·subst h3
    go_wp2_with fail
    refine (label_any gx its s _ (uh HPX)).mono ?_
    rintro e w3 ⟨rfl, hb3⟩
    obtain ⟨la, le, hlr⟩ : ∃ la le, labelP its s = (la, le) := ⟨_, _, rfl⟩
    have HLR := hide hlr
    rw [hlr]
    have hn3 := (hb3.block _ hs2).trans (uh HN2)
    have hp3 := (hb3.block _ hsp).trans (uh HNP)
    clear m0 m1 m2 m3 m4 n0 n1 hlr
    obtain ⟨⟨_, _, m2, _, _⟩, -⟩ := cells5 hn3
    obtain ⟨⟨_, n1⟩, -⟩ := box2 hp3
    have hs3 := lt_of_block hn3
    have hsp3 := lt_of_block hp3
    have HB3 := hide hb3
    clear hb3 hn3 hp3
    simp only
    go_wp2_with fail
    refine (rLabel_any gy its s _ ((uh HPY).below (uh HB3))).mono ?_
    rintro e w4 ⟨rfl, hb4⟩
    rw [uh HLR]
    have HB4 := hide (below_after (uh HB3) hb4)
    clear hb4 m2 n1
    simp only
    go_wp2_with fail
    refine (num_any _ _).mono ?_
    rintro e w8 ⟨rfl, rfl⟩
    go_wp2_with fail
    refine (num_any _ _).mono ?_
    rintro e w9 ⟨rfl, rfl⟩
    go_wp2_with fail
    go_ret
    exact ⟨by simp, (uh HBG).trans ((uh HB4).mono (Nat.le_of_lt (uh HK2).gt)), h, More.refl h, ((uh HK2).below (uh HB4)).weaken (fun _ hf => hf.elim)⟩
   ·have e3 : (q == 3) = false := by rw [beq_eq_false_iff_ne]; exact h3
    by_cases h4 : q = 4
    ·subst h4
     go_wp2_with fail
     refine (evals_any g h gx gy its _ vals _ (uh HK2) (uh HMM) ((uh HV).below (uh HB02)) (uh HL) (uh HLS) (uh HVS)).mono ?_
     rintro e w3 ⟨rfl, hb3, l1, l2, hl1, hl2, hk3⟩
     have HB3 := hide ((uh HBG).trans hb3)
     have HK3 := hide hk3
     have HM3 : Hid (More h { h with ls := h.ls ++ l1, vs := h.vs ++ l2 }) := hide ⟨by simp, by simp [hl2], by simp [hl1], by simp⟩
     clear hb3 hk3 hl1 hl2
     go_wp2_with fail
     go_ret
     exact ⟨rfl, uh HB3, _, uh HM3, uh HK3⟩
    ·have e4 : (q == 4) = false := by rw [beq_eq_false_iff_ne]; exact h4
     by_cases h5 : q = 5
     ·subst h5
      go_wp2_with fail
      refine (explains_any g h gx gy its c _ vals _ (uh HK2) (uh HMM) ((uh HV).below (uh HB02)) (uh HL) (uh HLS) (tab_below (uh HB02) (uh HT))).mono ?_
      rintro e w3 ⟨rfl, hb3, l1, hl1, hk3⟩
      have HB3 := hide ((uh HBG).trans hb3)
      have HK3 := hide hk3
      have HM3 : Hid (More h { h with ls := h.ls ++ l1 }) := hide ⟨by simp, by simp, by simp [hl1], by simp⟩
      clear hb3 hk3 hl1
      go_wp2_with fail
      go_ret
      exact ⟨rfl, uh HB3, _, uh HM3, uh HK3⟩
     ·have e5 : (q == 5) = false := by rw [beq_eq_false_iff_ne]; exact h5
      have e6 : (q == 6) = false := by rw [beq_eq_false_iff_ne]; omega
      have e7 : (q == 7) = false := by rw [beq_eq_false_iff_ne]; omega
      go_wp2_with fail
      go_ret
      exact ⟨rfl, uh HBG, h, More.refl h, uh HK2⟩
end Go.Proofs.YthnggjaecngbiaaGreatDoor
namespace Go.Proofs.YthnggjaecngbiaaGreatDoor
open Go.RowKit
theorem repI_one {m : Int} {j : Nat} {rest : List Value} : repL (mI m) j ++ .int .i64 m :: rest = repL (mI m) (j + 1) ++ rest := by
 rw [repL_add, List.append_assoc]
 rfl
theorem fillI_set {m : Int} {j : Nat} {a : Value} {rest : List Value} : (repL (mI m) j ++ a :: rest).set j (.int .i64 m) = repL (mI m) (j + 1) ++ rest := by
 have hl : (repL (mI m) j).length = j := by rw [repL_len]; simp [mI]
 rw [← repI_one]
 conv => lhs; arg 2; rw [← hl]
 exact set_mid
theorem Still.more_ns {w : World} {h : Hist} (k : Still w h) (l : List (Value × Nat × Int)) (ho : ∀ x ∈ l, w.ownsRow 0 3 1 x.1 x.2.1 (repL (mI x.2.2) x.2.1)) : Still w { h with ns := h.ns ++ l } :=
 ⟨k.ps, fun x hx => by
  rcases List.mem_append.1 hx with hx | hx
  ·exact k.ns x hx
  ·exact ho x hx, k.vs, k.ls⟩
theorem rowX_ns (h : Hist) (l : List (Value × Nat × Int)) : ∀ i, i < 6 → updX (updX (rowX h) 1 (rowX h 1 ++ l.map fun x => x.1)) 4 (updX (rowX h) 1 (rowX h 1 ++ l.map fun x => x.1) 4 ++ l.map fun x => .int .i64 x.2.2) i = rowX { h with ns := h.ns ++ l } i := by
 intro i hi
 rcases (by omega : i = 0 ∨ i = 1 ∨ i = 2 ∨ i = 3 ∨ i = 4 ∨ i = 5) with rfl | rfl | rfl | rfl | rfl | rfl <;> simp [updX, rowX]
def ON (g : Nat) (h : Hist) (F : Nat → Prop) (r : Nat → LRow) (m : Int) (us : List (Value × Nat)) (W : World) : Prop :=
 ∃ X, LawG W g (rowX h) h X F r ∧ ∀ u ∈ us, W.ownsRow g 3 1 u.1 u.2 (repL (mI m) u.2) ∧ ∀ b, u.1.ownBlock = some b → X b
theorem ON.below {g : Nat} {h : Hist} {F : Nat → Prop} {r : Nat → LRow} {m : Int} {us : List (Value × Nat)} {W W' : World} (k : ON g h F r m us W) (b : Below W.heap.size W W') : ON g h F r m us W' := by
 obtain ⟨X, k1, k2⟩ := k
 exact ⟨X, k1.below b, fun u hu => ⟨owns_below (k2 u hu).1 b, (k2 u hu).2⟩⟩
theorem ON.app {g : Nat} {h : Hist} {F : Nat → Prop} {r : Nat → LRow} {m : Int} {us : List (Value × Nat)} {W w7 : World} (k : ON g h F r m us W) {l : Value} {n q gg cap H : Nat} (hl : (l, n) ∈ us)
  (hown : w7.ownsRow g 3 1 (.slice (some ⟨gg, 0, none⟩) (n + q) cap) (n + q) (repL (mI m) n ++ repL (mI m) q)) (hg : W.grownBy w7 l.ownBlock) (hat : l.ownBlock = some gg ∨ gg = H) (hH : W.heap.size = H)
  (hr : ∀ j, l.ownBlock = some j → ∀ cur, W.heap[j]? = some (.cells cur 3 (0, 0)) → n * 1 + (repL (mI m) q).length ≤ cur.size ∧ w7.heap[j]? = some (.cells (cur.toList.take (n * 1) ++ repL (mI m) q ++ cur.toList.drop (n * 1 + (repL (mI m) q).length)).toArray 3 (0, 0)) ∨ w7.heap[j]? = W.heap[j]?) :
  ON g h F r m (us ++ [(.slice (some ⟨gg, 0, none⟩) (n + q) cap, n + q)]) w7 ∧ Below g W w7 := by
 obtain ⟨X, k1, k2⟩ := k
 have kl := k2 (l, n) hl
 have hX : ∀ j, j < W.heap.size → ¬ X j → w7.heap[j]? = W.heap[j]? := fun j hj hx => hg.block j hj (fun e => hx (kl.2 j e.symm))
 have hlt : gg < w7.heap.size := (hown.lt gg rfl).2
 refine ⟨⟨_, k1.grown hg.size hX, ?_⟩, ⟨hg.os, hg.tape, hg.output, hg.size, fun j hj => hg.block j (by have := lt_of_block k1.1.blk; omega) (fun e => by have := (kl.1.lt j e.symm).1; omega)⟩⟩
 intro u hu
 rcases List.mem_append.1 hu with hu | hu
 ·refine ⟨owns_rep (c := mI m) (m := q) kl.1 (k2 u hu).1 hg hr, fun b hb => Or.inl ((k2 u hu).2 b hb)⟩
 ·simp only [List.mem_singleton] at hu
  subst hu
  refine ⟨by simp only; rw [repL_add]; exact hown, fun b hb => ?_⟩
  simp only [Value.ownBlock, Option.some.injEq] at hb
  subst hb
  rcases hat with e | e
  ·exact Or.inl (kl.2 _ e)
  ·exact Or.inr ⟨by omega, hlt⟩
theorem ON.put {g : Nat} {h : Hist} {F : Nat → Prop} {r : Nat → LRow} {m : Int} {us : List (Value × Nat)} {W w7 : World} (k : ON g h F r m us W) {gg n' cap H : Nat} (hg : W.grownBy w7 (r 1).v.ownBlock)
  (hown : w7.ownsRow g 25 1 (.slice (some ⟨gg, 0, none⟩) n' cap) n' (rowX h 1 ++ us.map fun u => u.1)) (hat : (r 1).v.ownBlock = some gg ∨ gg = H) (hH : W.heap.size = H) :
  ∃ X' F', LawG (w7.setCell ⟨g, 1, none⟩ (.slice (some ⟨gg, 0, none⟩) n' cap)) g (updX (rowX h) 1 (rowX h 1 ++ us.map fun u => u.1)) { h with ns := h.ns ++ us.map fun u => (u.1, u.2, m) } X' F' (updR r 1 ⟨.slice (some ⟨gg, 0, none⟩) n' cap, n', rowX h 1 ++ us.map fun u => u.1⟩) ∧
  Below g W (w7.setCell ⟨g, 1, none⟩ (.slice (some ⟨gg, 0, none⟩) n' cap)) := by
 obtain ⟨X, k1, k2⟩ := k
 obtain ⟨a1, a2, _⟩ := k1.push (i := 1) (E := fun j => ∃ u ∈ us, u.1.ownBlock = some j) (h' := { h with ns := h.ns ++ us.map fun u => (u.1, u.2, m) }) (by omega) hg hown hat hH (fun j ⟨u, hu, hj⟩ => (k2 u hu).2 j hj) (fun w' hs hF =>
  Still.more_ns (k1.2.2.1 w' hs (fun j hj => hF j (Or.inl hj))) _ (fun x hx => by
   obtain ⟨u, hu, rfl⟩ := List.mem_map.1 hx
   exact owns_zero (owns_same (k2 u hu).1 (fun b hb => hF b (Or.inr ⟨u, hu, hb⟩)))))
 exact ⟨_, _, a1, a2⟩
end Go.Proofs.YthnggjaecngbiaaGreatDoor
namespace Go.Proofs.YthnggjaecngbiaaGreatDoor
open Go.RowKit
theorem ON.own {g : Nat} {h : Hist} {F : Nat → Prop} {r : Nat → LRow} {m : Int} {us : List (Value × Nat)} {W : World} (k : ON g h F r m us W) {l : Value} {n : Nat} (hl : (l, n) ∈ us) : W.ownsRow g 3 1 l n (repL (mI m) n) := by
 obtain ⟨X, _, k2⟩ := k
 exact (k2 (l, n) hl).1
theorem ON.cells {g : Nat} {h : Hist} {F : Nat → Prop} {r : Nat → LRow} {m : Int} {us : List (Value × Nat)} {W w1 : World} (k : ON g h F r m us W) {i : Nat} (hi : i < 6) (hg : W.grownBy w1 (r i).v.ownBlock) :
  w1.cell? ⟨g, 1, none⟩ = some (r 1).v ∧ w1.cell? ⟨g, 4, none⟩ = some (r 4).v ∧ w1.frozen? ⟨g, 1, none⟩ = false ∧ w1.frozen? ⟨g, 4, none⟩ = false ∧ g < w1.heap.size := by
 obtain ⟨X, k1, _⟩ := k
 obtain ⟨⟨_, a2, _, _, a5, _⟩, _, b2, _, _, b5, _⟩ := k1.cells hi hg
 exact ⟨a2, a5, b2, b5, Nat.lt_of_lt_of_le (lt_of_block k1.1.blk) hg.size⟩
theorem ON.row1 {g : Nat} {h : Hist} {F : Nat → Prop} {r : Nat → LRow} {m : Int} {us : List (Value × Nat)} {W : World} (k : ON g h F r m us W) {o : Option Addr} {n c : Nat} (hv : (r 1).v = .slice o n c) (hn : n = h.ns.length) : W.ownsRow g 25 1 (.slice o n c) n (rowX h 1) := by
 obtain ⟨X, k1, _⟩ := k
 have h1 := k1.1.own 1 (by omega)
 have h2 : (r 1).n = h.ns.length := by have := k1.count (i := 1) (by omega) rfl; simpa [rowX] using this
 rw [k1.2.1 1 (by omega), h2, hv, ← hn] at h1
 exact h1
theorem row4 {w : World} {g : Nat} {Y : List Value} {h h' : Hist} {X F : Nat → Prop} {r : Nat → LRow} {Z : LRow} (k : LawG w g (updX (rowX h) 1 Y) h' X F (updR r 1 Z)) {o : Option Addr} {n c : Nat} (hv : (r 4).v = .slice o n c) (hn : n = h.ns.length) : w.ownsRow g 3 1 (.slice o n c) n (rowX h 4) := by
 have h1 := k.1.own 4 (by omega)
 have h2 : (updR r 1 Z 4).n = h.ns.length := by
  have := k.count (i := 4) (by omega) rfl
  rw [this]
  simp [updX, rowX]
 rw [k.2.1 4 (by omega), h2] at h1
 rw [show (updR r 1 Z 4).v = (r 4).v by rw [updR_far _ _ (by omega)], hv, ← hn] at h1
 exact h1
theorem put4 {w w1 : World} {g : Nat} {l : List (Value × Nat × Int)} {h : Hist} {X F : Nat → Prop} {r : Nat → LRow} {Z : LRow} (k : LawG w g (updX (rowX h) 1 (rowX h 1 ++ l.map fun x => x.1)) { h with ns := h.ns ++ l } X F (updR r 1 Z)) {g' n' cap H : Nat} {news : List Value}
  (hg : w.grownBy w1 (r 4).v.ownBlock) (hown : w1.ownsRow g 3 1 (.slice (some ⟨g', 0, none⟩) n' cap) n' (rowX h 4 ++ news)) (hat : (r 4).v.ownBlock = some g' ∨ g' = H) (hH : w.heap.size = H) (hnews : news = l.map fun x => .int .i64 x.2.2) :
  LawAt (w1.setCell ⟨g, 4, none⟩ (.slice (some ⟨g', 0, none⟩) n' cap)) g { h with ns := h.ns ++ l } (fun _ => False) ∧ Below g w (w1.setCell ⟨g, 4, none⟩ (.slice (some ⟨g', 0, none⟩) n' cap)) := by
 have he : (updR r 1 Z 4).v = (r 4).v := by rw [updR_far _ _ (by omega)]
 have hx : updX (rowX h) 1 (rowX h 1 ++ l.map fun x => x.1) 4 = rowX h 4 := by simp [updX]
 obtain ⟨a1, a2, _⟩ := k.push (i := 4) (E := fun _ => False) (h' := { h with ns := h.ns ++ l }) (news := news) (by omega) (by rw [he]; exact hg) (by rw [hx]; exact hown) (by rw [he]; exact hat) hH (fun _ hf => hf.elim) (fun w' hs hF => k.2.2.1 w' hs (fun j hj => hF j (Or.inl hj)))
 refine ⟨LawAt.weaken (a1.at ?_) (fun _ hf => hf.elim), a2⟩
 rw [hnews]
 exact rowX_ns h l
theorem cells4L {w w1 : World} {g : Nat} {rx : Nat → List Value} {h' : Hist} {X F : Nat → Prop} {r : Nat → LRow} {Z : LRow} (k : LawG w g rx h' X F (updR r 1 Z)) (hg : w.grownBy w1 (r 4).v.ownBlock) : w1.cell? ⟨g, 4, none⟩ = some (r 4).v ∧ w1.frozen? ⟨g, 4, none⟩ = false ∧ g < w1.heap.size := by
 have he : (updR r 1 Z 4).v = (r 4).v := by rw [updR_far _ _ (by omega)]
 obtain ⟨⟨_, _, _, _, a5, _⟩, _, _, _, _, b5, _⟩ := k.cells (i := 4) (by omega) (by rw [he]; exact hg)
 rw [he] at a5
 exact ⟨a5, b5, Nat.lt_of_lt_of_le (lt_of_block k.1.blk) hg.size⟩
end Go.Proofs.YthnggjaecngbiaaGreatDoor
namespace Go.Proofs.YthnggjaecngbiaaGreatDoor
open Go.RowKit
set_option maxRecDepth 100000 in
theorem small_fitI {n q : Nat} (hn : n ≤ 1000) (hq : q ≤ 3) : n + q ≤ maxLen ∧ (n + q + (n + q) / 4 + 192) * 8 ≤ 281474976710656 :=
 ⟨(small_fit hn hq).1, Nat.le_trans (Nat.mul_le_mul_left _ (by decide)) (small_fit hn hq).2⟩
set_option maxRecDepth 100000 in
set_option maxHeartbeats 3200000 in
theorem ownNumbers_any (g : Nat) (h : Hist) (X : Nat → Prop) (lo : Option Addr) (n lc : Nat) (xs : List Value) (w : World) (k : LawAt w g h X) (ho : w.ownsRow g 3 1 (.slice lo n lc) n xs) (hX : ∀ b, (Value.slice lo n lc).ownBlock = some b → X b) (hn : n ≤ 1000)
  (hvs : (h.ns.length + 4 + (h.ns.length + 4) / 4 + 192) * 24 ≤ 281474976710656) :
  Calls Tryz.prog 88 #[.pointer (some ⟨g, 0, none⟩), .slice lo n lc] w fun e w' => e = .returned (.tuple #[]) ∧ Below g w w' ∧ ∃ l : List (Value × Nat × Int), l.length = 4 ∧ LawAt w' g { h with ns := h.ns ++ l } (fun _ => False) := by
 obtain ⟨F, r, kG⟩ := k
 obtain ⟨⟨_, _, _, _, c5, _⟩, _⟩ := kG.1.cells
 have hgl := lt_of_block kG.1.blk
 obtain ⟨o5, p5, h5v⟩ := kG.1.form (i := 4) (by omega)
 obtain ⟨o2, p2, h2v⟩ := kG.1.form (i := 1) (by omega)
 have hn2 : (r 1).n = h.ns.length := by have := kG.count (i := 1) (by omega) rfl; simpa [rowX] using this
 rw [hn2] at h2v
 have H2V := hide h2v
 have hn5 : (r 4).n = h.ns.length := by have := kG.count (i := 4) (by omega) rfl; simpa [rowX] using this
 rw [hn5] at h5v
 have H5V := hide h5v
 rw [h5v] at c5
 obtain ⟨m, hm⟩ : ∃ m : Int, -1 - (h.ns.length : Int) = m := ⟨_, rfl⟩
 obtain ⟨w1, hw1⟩ : ∃ w1, w1 = w := ⟨_, rfl⟩
 have hb1 : Below w.heap.size w w1 := by rw [hw1]; exact Below.refl _ _
 have HK1 := hide (kG.grown hb1.size (fun j hj _ => hb1.block j hj))
 have HO1 := hide (owns_below ho hb1)
 have HB1 := hide (hb1.mono (Nat.le_of_lt hgl))
 have hg1 : g < w1.heap.size := by rw [hw1]; exact hgl
 have hbl : ∀ b, (Value.slice lo n lc).ownBlock = some b → b < w.heap.size := fun b hb => (ho.lt b hb).2
 have HBL := hide hbl
 have HX := hide hX
 have hvl : h.ns.length ≤ 11728124029610 := (big_fit hvs).2.2
 have HQ : Hid (∀ q, q ≤ 3 → n + q ≤ maxLen ∧ (n + q + (n + q) / 4 + 192) * 8 ≤ 281474976710656) := hide (fun q hq => small_fitI hn hq)
 have HVS := hide hvs
 have HBF := hide (big_fit hvs)
 clear kG ho hX hb1 hbl h5v hn5 hvs h2v hn2
 go_enter Tryz.func88, Tryz.ntmps88
 go_wp2_with fail
 rw [← hw1]
 clear hw1 c5
 go_loopg [5] n (fun gk iv wr => ∃ (j : Nat) (rest : List Value), j ≤ n ∧ gk = n - j ∧ iv = .int .i64 (j : Int) ∧ wr.heap.size = w1.heap.size ∧ w1.grownBy wr (Value.slice lo n lc).ownBlock ∧ wr.ownsRow g 3 1 (.slice lo n lc) n (repL (mI m) j ++ rest))
 case atStart => exact ⟨0, xs, by omega, rfl, rfl, rfl, ⟨rfl, rfl, rfl, Nat.le_refl _, fun _ _ _ => rfl⟩, uh HO1⟩
 case round =>
  obtain ⟨j, rest, hj, hg, rfl, hsz, hgr, hown⟩ := hrel
  have A : Aside (gk = n - j ∧ wr.heap.size = w1.heap.size ∧ w1.grownBy wr (Value.slice lo n lc).ownBlock ∧ wr.ownsRow g 3 1 (.slice lo n lc) n (repL (mI m) j ++ rest)) := ⟨hg, hsz, hgr, hown⟩
  clear hg
  by_cases hlt : j < n
  ·obtain ⟨lb, lc', hlv, hgb, hlb⟩ := hown.form (by omega)
   simp only [Value.slice.injEq, true_and] at hlv
   obtain ⟨rfl, rfl⟩ := hlv
   have hrl : (repL (mI m) j ++ rest).length = n * 1 := hown.1
   rw [List.length_append, repL_len] at hrl
   simp only [mI, List.length_cons, List.length_nil] at hrl
   obtain ⟨a, rest', rfl⟩ : ∃ a rest', rest = a :: rest' := by
    match rest, hrl with
    | [], h => simp at h; omega
    | a :: t, _ => exact ⟨a, t, rfl⟩
   obtain ⟨p0, p1, p3⟩ := owns_set hown (i := j) (by omega) (.int .i64 m)
   rw [fillI_set] at p3
   have hl2 : (repL (mI m) j).length = j := by rw [repL_len]; simp [mI]
   rw [List.getElem?_append_right (by omega), hl2, show j - j = 0 by omega] at p0
   simp only [List.getElem?_cons_zero] at p0
   have HP3 := hide p3
   have hjc : (j : Int) < n := by omega
   have HGR : Hid (w1.grownBy (wr.setCell ⟨lb, j, none⟩ (.int .i64 m)) (some lb)) := hide ⟨hgr.os, hgr.tape, hgr.output, by simp only [World.setCell, Array.size_modify]; exact hgr.size, fun q hq hne => by
    rw [Below.heap_setCell _ _ _ _ (fun e => hne (by rw [e]))]; exact hgr.block q hq hne⟩
   clear hgr hown p3 hrl hl2
   go_wp2_with fail
   go_roundg (n - (j + 1))
   case measure => have := A.out.1; omega
   case rel => exact ⟨j + 1, rest', by omega, rfl, by go_num, by simp only [World.setCell, Array.size_modify]; exact A.out.2.1, uh HGR, uh HP3⟩
  ·have hje : j = n := by omega
   subst hje
   have hrest : rest = [] := by
    have := hown.1
    rw [List.length_append, repL_len] at this
    simp only [mI, List.length_cons, List.length_nil] at this
    exact List.eq_nil_of_length_eq_zero (by omega)
   subst hrest
   rw [List.append_nil] at hown
   have hK2 := (uh HK1).grown (w' := wr) (by omega) (fun q hq hx => hgr.block q hq (fun e => hx (Or.inl (uh HX _ e.symm))))
   have HK2 := hide hK2
   have HO2 := hide hown
   have HB2 : Hid (Below g w wr) := hide ((uh HB1).trans ⟨hgr.os, hgr.tape, hgr.output, hgr.size, fun q hq => hgr.block q (by omega) (fun e => by have := (hown.lt _ e.symm).1; omega)⟩)
   have hgw : g ≤ wr.heap.size := by omega
   obtain ⟨i2, hi2, z0, z1, z2⟩ := info_parts Tryz.info_int
   have HOV : Hid (ON g h F r m [(.slice lo j lc, j)] wr) := hide ⟨_, uh HK2, fun u hu => by
    simp only [List.mem_singleton] at hu
    subst hu
    exact ⟨uh HO2, fun b hb => Or.inl (Or.inl (uh HX b hb))⟩⟩
   clear hgr hown hK2 A hsz hlt hj HK2
   have E1 : Hid ([.int .i64 m] = repL (mI m) 1) := hide rfl
   have E2 : Hid ([.int .i64 m, .int .i64 m] = repL (mI m) 2) := hide rfl
   have E3 : Hid ([.int .i64 m, .int .i64 m, .int .i64 m] = repL (mI m) 3) := hide rfl
   have HGW := hide hgw
   obtain ⟨i3, hi3, y0, y1, y2⟩ := info_parts Tryz.info_ints
   obtain ⟨i4, hi4, v0, v1, v2⟩ := info_parts Tryz.info_int
   clear hgw
   go_wp2_with (at_builtin; first | (refine wpList_append_told _ (by rfl) _ _ _ (by rfl) g 3 i2 _ 1 8 Tryz.underlying25 hi2 z0 z1 z2 rfl (by decide) (.slice lo j lc) j (repL (mI m) j) (by rfl) ((uh HO2).alloc _) ⟨wr.heap.size, 0, none⟩ 1 1 [.int .i64 m] (by rfl) (by rfl) (World.news_of_block (cs := #[.int .i64 m]) (t := 3) (fr := (0, 0)) (heap_alloc_new wr _)) (by simp [Value.oneCell']) (by decide) (uh HQ 1 (by decide)).1 (uh HQ 1 (by decide)).2 (Nat.le_trans (uh HGW) ((Below.refl g wr).alloc (uh HGW) _).size) (wr.heap.size + 1) (by simp) ?_; intro g1 c1 w3 hown7 hgrow7 hat7 hrow7; rw [uh E1] at hown7 hrow7; have A1 := hide (ON.app ((uh HOV).below ((Below.refl _ wr).alloc (Nat.le_refl _) _)) (by simp) hown7 hgrow7 hat7 (by simp) hrow7); have OV1 := hide (uh A1).1; have OW1 := hide ((uh A1).1.own (l := .slice lo j lc) (n := j) (by simp)); have BB1 := hide ((uh HB2).trans ((Below.alloc (Below.refl g wr) (uh HGW) _).trans (uh A1).2)); have GW1 := hide (Nat.le_of_lt ((uh OV1).cells (i := 1) (by decide) (grown_refl w3 _)).2.2.2.2); obtain ⟨ya1, -, -, -, yg1⟩ := (uh OV1).cells (i := 1) (by decide) (grown_refl w3 _); rw [uh H2V] at ya1; clear hown7 hgrow7 hat7 hrow7) | (refine wpList_append_told _ (by rfl) _ _ _ (by rfl) g 3 i2 _ 1 8 Tryz.underlying25 hi2 z0 z1 z2 rfl (by decide) (.slice lo j lc) j (repL (mI m) j) (by rfl) ((uh OW1).alloc _) ⟨w3.heap.size, 0, none⟩ 2 2 [.int .i64 m, .int .i64 m] (by rfl) (by rfl) (World.news_of_block (cs := #[.int .i64 m, .int .i64 m]) (t := 3) (fr := (0, 0)) (heap_alloc_new w3 _)) (by simp [Value.oneCell']) (by decide) (uh HQ 2 (by decide)).1 (uh HQ 2 (by decide)).2 (Nat.le_trans (uh GW1) ((Below.refl g w3).alloc (uh GW1) _).size) (w3.heap.size + 1) (by simp) ?_; intro g2 c2 w4 hown7 hgrow7 hat7 hrow7; rw [uh E2] at hown7 hrow7; have A2 := hide (ON.app ((uh OV1).below ((Below.refl _ w3).alloc (Nat.le_refl _) _)) (by simp) hown7 hgrow7 hat7 (by simp) hrow7); have OV2 := hide (uh A2).1; have OW2 := hide ((uh A2).1.own (l := .slice lo j lc) (n := j) (by simp)); have BB2 := hide ((uh BB1).trans ((Below.alloc (Below.refl g w3) (uh GW1) _).trans (uh A2).2)); have GW2 := hide (Nat.le_of_lt ((uh OV2).cells (i := 1) (by decide) (grown_refl w4 _)).2.2.2.2); obtain ⟨ya2, -, -, -, yg2⟩ := (uh OV2).cells (i := 1) (by decide) (grown_refl w4 _); rw [uh H2V] at ya2; clear hown7 hgrow7 hat7 hrow7) | (refine wpList_append_told _ (by rfl) _ _ _ (by rfl) g 3 i2 _ 1 8 Tryz.underlying25 hi2 z0 z1 z2 rfl (by decide) (.slice lo j lc) j (repL (mI m) j) (by rfl) ((uh OW2).alloc _) ⟨w4.heap.size, 0, none⟩ 3 3 [.int .i64 m, .int .i64 m, .int .i64 m] (by rfl) (by rfl) (World.news_of_block (cs := #[.int .i64 m, .int .i64 m, .int .i64 m]) (t := 3) (fr := (0, 0)) (heap_alloc_new w4 _)) (by simp [Value.oneCell']) (by decide) (uh HQ 3 (by decide)).1 (uh HQ 3 (by decide)).2 (Nat.le_trans (uh GW2) ((Below.refl g w4).alloc (uh GW2) _).size) (w4.heap.size + 1) (by simp) ?_; intro g3 c3 w5 hown7 hgrow7 hat7 hrow7; rw [uh E3] at hown7 hrow7; have A3 := hide (ON.app ((uh OV2).below ((Below.refl _ w4).alloc (Nat.le_refl _) _)) (by simp) hown7 hgrow7 hat7 (by simp) hrow7); have OV3 := hide (uh A3).1; have OW3 := hide ((uh A3).1.own (l := .slice lo j lc) (n := j) (by simp)); have BB3 := hide ((uh BB2).trans ((Below.alloc (Below.refl g w4) (uh GW2) _).trans (uh A3).2)); have GW3 := hide (Nat.le_of_lt ((uh OV3).cells (i := 1) (by decide) (grown_refl w5 _)).2.2.2.2); obtain ⟨ya3, -, -, -, yg3⟩ := (uh OV3).cells (i := 1) (by decide) (grown_refl w5 _); rw [uh H2V] at ya3; clear hown7 hgrow7 hat7 hrow7) | (refine wpList_append_told _ (by rfl) _ _ _ (by rfl) g 25 i3 _ 1 24 Tryz.underlying75 hi3 y0 y1 y2 rfl (by decide) (.slice o2 h.ns.length p2) h.ns.length (rowX h 1) (by rfl) (((uh OV3).row1 (uh H2V) rfl).alloc _) ⟨w5.heap.size, 0, none⟩ 4 4 [.slice lo j lc, .slice (some ⟨g1, 0, none⟩) (j + 1) c1, .slice (some ⟨g2, 0, none⟩) (j + 2) c2, .slice (some ⟨g3, 0, none⟩) (j + 3) c3] (by rfl) (by rfl) (World.news_of_block (cs := #[.slice lo j lc, .slice (some ⟨g1, 0, none⟩) (j + 1) c1, .slice (some ⟨g2, 0, none⟩) (j + 2) c2, .slice (some ⟨g3, 0, none⟩) (j + 3) c3]) (t := 25) (fr := (0, 0)) (heap_alloc_new w5 _)) (by simp [Value.oneCell']) (by decide) (uh HBF).1 (uh HVS) (Nat.le_trans (uh GW3) ((Below.refl g w5).alloc (uh GW3) _).size) (w5.heap.size + 1) (by simp) ?_; intro g4 c4 w6 hown7 hgrow7 hat7 hrow7; rw [← uh H2V] at hgrow7 hat7; obtain ⟨X4, F4, L4, B4⟩ := ON.put ((uh OV3).below ((Below.refl _ w5).alloc (Nat.le_refl _) _)) hgrow7 hown7 hat7 (by simp); have HL4 := hide L4; have BB4 := hide ((uh BB3).trans ((Below.alloc (Below.refl g w5) (uh GW3) _).trans B4)); obtain ⟨ya4, yb4, yc4, yd4, yg4⟩ := ((uh OV3).below ((Below.refl _ w5).alloc (Nat.le_refl _) _)).cells (i := 1) (by decide) hgrow7; rw [uh H2V] at ya4; rw [uh H5V] at yb4; clear hown7 hgrow7 hat7 hrow7 L4 B4))
   have HL6 : Hid (LawG (w6.setCell ⟨g, 1, none⟩ (.slice (some ⟨g4, 0, none⟩) (h.ns.length + 4) c4)) g (updX (rowX h) 1 (rowX h 1 ++ [(.slice lo j lc, j, m), (.slice (some ⟨g1, 0, none⟩) (j + 1) c1, j + 1, m), (.slice (some ⟨g2, 0, none⟩) (j + 2) c2, j + 2, m), (.slice (some ⟨g3, 0, none⟩) (j + 3) c3, j + 3, m)].map fun x => x.1)) { h with ns := h.ns ++ [(.slice lo j lc, j, m), (.slice (some ⟨g1, 0, none⟩) (j + 1) c1, j + 1, m), (.slice (some ⟨g2, 0, none⟩) (j + 2) c2, j + 2, m), (.slice (some ⟨g3, 0, none⟩) (j + 3) c3, j + 3, m)] } X4 F4 (updR r 1 ⟨.slice (some ⟨g4, 0, none⟩) (h.ns.length + 4) c4, h.ns.length + 4, rowX h 1 ++ [(.slice lo j lc, j, m), (.slice (some ⟨g1, 0, none⟩) (j + 1) c1, j + 1, m), (.slice (some ⟨g2, 0, none⟩) (j + 2) c2, j + 2, m), (.slice (some ⟨g3, 0, none⟩) (j + 3) c3, j + 3, m)].map fun x => x.1⟩)) := HL4
   clear HL4 ya4 yb4 yc4 yd4 yg4 ya1 ya2 ya3 yg1 yg2 yg3
   generalize w6.setCell ⟨g, 1, none⟩ (.slice (some ⟨g4, 0, none⟩) (h.ns.length + 4) c4) = w8 at *
   obtain ⟨q5, qf5, qg⟩ := cells4L (uh HL6) (grown_refl w8 _)
   rw [uh H5V] at q5
   have HLD := hide ((uh HL6).below (Below.refl _ w8).drew)
   have HR5 := hide (row4 (uh HLD) (uh H5V) rfl)
   have HG8 := hide (Nat.le_of_lt qg)
   go_region_law (first
    | (refine step_append_told _ (by rfl) _ _ _ (by rfl) g 3 i4 _ 1 8 Tryz.underlying25 hi4 v0 v1 v2 rfl (by decide) (.slice o5 h.ns.length p5) h.ns.length (rowX h 4) (by rfl) ((uh HR5).alloc _) ⟨w8.heap.size, 0, none⟩ 4 4 [.int .i64 m, .int .i64 m, .int .i64 m, .int .i64 m] (by rfl) (by rfl) (World.news_of_block (cs := #[.int .i64 m, .int .i64 m, .int .i64 m, .int .i64 m]) (t := 3) (fr := (0, 0)) (heap_alloc_new w8.drew _)) (by simp [Value.oneCell']) (by decide) (uh HBF).1 (uh HBF).2.1 (Nat.le_trans (uh HG8) ((Below.refl g w8.drew).alloc (uh HG8) _).size) (w8.heap.size + 1) (by simp) ?_; intro g5 c5 w7 hown7 hgrow7 hat7 hrow7; rw [← uh H5V] at hgrow7 hat7; have A5 := hide (put4 ((uh HLD).below ((Below.refl _ w8.drew).alloc (Nat.le_refl _) _)) hgrow7 hown7 hat7 (by simp) (by rfl)); obtain ⟨yb5, yd5, yg5⟩ := cells4L ((uh HLD).below ((Below.refl _ w8.drew).alloc (Nat.le_refl _) _)) hgrow7; rw [uh H5V] at yb5; clear hown7 hgrow7 hat7 hrow7)
    | go_simp)
   all_goals
    go_end0
    exact ⟨rfl, (uh BB4).trans ((Below.refl g w8).drew.trans ((Below.alloc (Below.refl g w8.drew) (uh HG8) _).trans (uh A5).2)), _, rfl, (uh A5).1⟩
end Go.Proofs.YthnggjaecngbiaaGreatDoor
namespace Go.Proofs.YthnggjaecngbiaaGreatDoor
open Go.RowKit
set_option maxRecDepth 100000 in
set_option maxHeartbeats 1600000 in
theorem sameNumbers_any (a b : Value) (vs : List Int) (w : World) (ha : SlAt w 1 a vs.length (ints vs)) (hb : SlAt w 1 b vs.length (ints vs)) (hl : vs.length ≤ 1000) :
  Calls Tryz.prog 87 #[a, b] w fun e w' => e = .returned (.bool true) ∧ Below w.heap.size w w' := by
 obtain ⟨ao, ac, rfl⟩ := ha.form
 obtain ⟨bo, bc, rfl⟩ := hb.form
 have HA := hide ha
 have HB := hide hb
 clear ha hb
 go_enter Tryz.func87, Tryz.ntmps87
 go_wp2_with fail
 go_loopg [5] vs.length (fun g i wr => ∃ j : Nat, j ≤ vs.length ∧ g = vs.length - j ∧ i = .int .i64 (j : Int) ∧ Below w.heap.size w wr)
 case atStart => exact ⟨0, by omega, rfl, rfl, Below.refl _ _⟩
 case round =>
  obtain ⟨j, hj, hg, rfl, hb⟩ := hrel
  have A : Aside (gk = vs.length - j ∧ Below w.heap.size w wr) := ⟨hg, hb⟩
  clear hg
  by_cases hlt : j < vs.length
  ·rcases (uh HA).below hb with ⟨h0, _⟩ | ⟨g1, cap1, hv1, hc1, hm1, hgl1, hx1⟩
   ·omega
   rcases (uh HB).below hb with ⟨h0, _⟩ | ⟨g2, cap2, hv2, hc2, hm2, hgl2, hx2⟩
   ·omega
   simp only [Value.slice.injEq] at hv1 hv2
   obtain ⟨rfl, _, rfl⟩ := hv1
   obtain ⟨rfl, _, rfl⟩ := hv2
   have k0 : wr.cell? ⟨g1, j, none⟩ = some (.int .i64 vs[j]) := by rw [hx1 j (by omega)]; simp [ints, hlt]
   have l0 : wr.cell? ⟨g2, j, none⟩ = some (.int .i64 vs[j]) := by rw [hx2 j (by omega)]; simp [ints, hlt]
   have hjc : (j : Int) < vs.length := by omega
   generalize vs[j] = x at *
   clear hx1 hx2 hb
   go_wp2_with fail
   go_region
   all_goals
    go_wp2
    go_roundg (vs.length - (j + 1))
    case measure => have := A.out.1; omega
    case rel => exact ⟨j + 1, by omega, rfl, by go_num, A.out.2.drew⟩
  ·have hjc : ¬ (j : Int) < vs.length := by omega
   go_wp2_with fail
   go_ret
   exact ⟨rfl, A.out.2⟩
end Go.Proofs.YthnggjaecngbiaaGreatDoor
namespace Go.Proofs.YthnggjaecngbiaaGreatDoor
open Go.RowKit
structure OpOk (w : World) (o : OpD) (vals : List Int) : Prop where
 text : o.s.size ≤ maxLen
 lo : -9223372036854775808 ≤ o.p
 hi : o.p ≤ 9223372036854775807
 ins : InSl w (.slice o.vo o.vn o.vc) vals
 fit : (vals.length + 8) * 8 ≤ 140737488355328
theorem OpOk.below {w w' : World} {o : OpD} {vals : List Int} (h : OpOk w o vals) (b : Below w.heap.size w w') : OpOk w' o vals := ⟨h.text, h.lo, h.hi, h.ins.below b, h.fit⟩
structure Few (h : Hist) (n : Nat) : Prop where
 ps : h.ps.length ≤ n
 ls : h.ls.length ≤ n
 vs : h.vs.length ≤ 4 * n
 ns : h.ns.length ≤ 4 * n
theorem Few.more {h h' : Hist} {n : Nat} (k : Few h n) (m : More h h') : Few h' (n + 1) := by
 have := m.ps
 have := m.ls
 have := m.vs
 have := m.ns
 have := k.ps
 have := k.ls
 have := k.vs
 have := k.ns
 exact ⟨by omega, by omega, by omega, by omega⟩
theorem Few.mono {h : Hist} {n m : Nat} (k : Few h n) (hm : n ≤ m) : Few h m := by
 have := k.ps
 have := k.ls
 have := k.vs
 have := k.ns
 exact ⟨by omega, by omega, by omega, by omega⟩
set_option maxRecDepth 100000 in
theorem Few.fits {h : Hist} {n : Nat} (k : Few h n) (hn : n ≤ 2199023256000) : (h.ps.length + 1 + (h.ps.length + 1) / 4 + 192) * 16 ≤ 281474976710656 ∧ h.ps.length + 1 ≤ maxLen ∧ (h.ls.length + 1 + (h.ls.length + 1) / 4 + 192) * 24 ≤ 281474976710656 ∧ (h.vs.length + 4 + (h.vs.length + 4) / 4 + 192) * 24 ≤ 281474976710656 ∧ (h.ns.length + 4 + (h.ns.length + 4) / 4 + 192) * 24 ≤ 281474976710656 := by
 have p1 : h.ps.length + 1 ≤ 2199023256001 := Nat.succ_le_succ (Nat.le_trans k.ps hn)
 have l1 : h.ls.length + 1 ≤ 2199023256001 := Nat.succ_le_succ (Nat.le_trans k.ls hn)
 have v1 : h.vs.length + 4 ≤ 8796093024004 := Nat.add_le_add_right (Nat.le_trans k.vs (Nat.mul_le_mul_left 4 hn)) 4
 have n1 : h.ns.length + 4 ≤ 8796093024004 := Nat.add_le_add_right (Nat.le_trans k.ns (Nat.mul_le_mul_left 4 hn)) 4
 refine ⟨?_, Nat.le_trans p1 (by decide), ?_, ?_, ?_⟩
 ·exact Nat.le_trans (Nat.mul_le_mul_right 16 (Nat.add_le_add_right (Nat.add_le_add p1 (Nat.div_le_div_right p1)) 192)) (by decide)
 ·exact Nat.le_trans (Nat.mul_le_mul_right 24 (Nat.add_le_add_right (Nat.add_le_add l1 (Nat.div_le_div_right l1)) 192)) (by decide)
 ·exact Nat.le_trans (Nat.mul_le_mul_right 24 (Nat.add_le_add_right (Nat.add_le_add v1 (Nat.div_le_div_right v1)) 192)) (by decide)
 ·exact Nat.le_trans (Nat.mul_le_mul_right 24 (Nat.add_le_add_right (Nat.add_le_add n1 (Nat.div_le_div_right n1)) 192)) (by decide)
theorem stepAll (g : Nat) (h : Hist) (o : OpD) (vals : List Int) (n : Nat) (w : World) (k : LawAt w g h (fun _ => False)) (hk : o.k ≤ 5) (ok : OpOk w o vals) (hf : Few h n) (hn : n ≤ 2199023256000) (ht : Tab w) :
  Calls Tryz.prog 33 #[.pointer (some ⟨g, 0, none⟩), .agg #[.int .i64 o.k, .int .i64 o.p, .string o.s, .int .i64 o.c, .slice o.vo o.vn o.vc]] w (StepOf g h w) := by
 obtain ⟨f1, f2, f3, f4, -⟩ := hf.fits hn
 by_cases h1 : o.k = 1
 ·rw [h1]
  exact step_plain g h o.p o.c o.s o.vo o.vn o.vc w k ok.text ht
 ·by_cases h2 : o.k = 2
  ·rw [h2]
   exact step_new g h o.p o.c o.s o.vo o.vn o.vc w k ok.text f1 f2
  ·exact step_more g h o.k o.p o.c o.s o.vo o.vn o.vc vals w k hk h1 h2 ok.lo ok.hi ok.ins ok.fit f3 f4 ht
set_option maxRecDepth 100000 in
set_option maxHeartbeats 3200000 in
theorem played5_any (v : Value) (ops : List OpD) (w : World) (hv : OpsV w v ops) (hok : ∀ o ∈ ops, ∃ vals, OpOk w o vals) (hn : ops.length ≤ 2199023255552) (ht : Tab w) :
  Calls Tryz.prog 11 #[v, .int .i64 5] w fun e w' => e = .returned (.bool true) ∧ Below w.heap.size w w' := by
 obtain ⟨ao, cap, rfl⟩ := hv.form
 have HV := hide hv
 have HOK := hide hok
 have HT := hide ht
 obtain ⟨w0, hw0⟩ : ∃ w0, w0 = w.alloc (.cells #[.slice none 0 0, .slice none 0 0, .slice none 0 0, .slice none 0 0, .slice none 0 0, .slice none 0 0] 79) := ⟨_, rfl⟩
 have hb0 : Below w.heap.size w w0 := by rw [hw0]; exact (Below.refl _ w).alloc (Nat.le_refl _) _
 have HK0 : Hid (LawAt w0 w.heap.size ⟨[], [], [], []⟩ (fun _ => False)) := hide (by rw [hw0]; exact LawAt.new w)
 have HB0 := hide hb0
 have HF0 : Hid (Few ⟨[], [], [], []⟩ 0) := hide ⟨by simp, by simp, by simp, by simp⟩
 clear hv hok ht hb0
 go_enter Tryz.func11, Tryz.ntmps11
 go_wp2_with fail
 rw [← hw0]
 clear hw0
 refine (step_plain w.heap.size _ 0 0 _ none 0 0 _ (uh HK0) (by unfold maxLen; exact Nat.le_trans (m := 1000) (by decide) (by decide)) (tab_below (uh HB0) (uh HT))).mono ?_
 rintro e w1 ⟨rfl, hb1, h1, hm1, hk1⟩
 have HB1 := hide ((uh HB0).trans hb1)
 have HK1 := hide hk1
 have HF1 := hide ((uh HF0).more hm1)
 clear hb1 hm1 hk1
 go_wp2_with fail
 refine (step_new w.heap.size _ 0 0 _ none 0 0 _ (uh HK1) (by unfold maxLen; exact Nat.le_trans (m := 1000) (by decide) (by decide)) ((uh HF1).fits (by decide)).1 ((uh HF1).fits (by decide)).2.1).mono ?_
 rintro e w2 ⟨rfl, hb2, h2, hm2, hk2⟩
 have HB2 := hide ((uh HB1).trans hb2)
 have HK2 := hide hk2
 have HF2 := hide ((uh HF1).more hm2)
 clear hb2 hm2 hk2
 have HA3 := hide ((Below.refl _ w2).alloc (Nat.le_refl _) (.cells #[.int .i64 30, .int .i64 1] 3))
 have HI3 : Hid (InSl (w2.alloc (.cells #[.int .i64 30, .int .i64 1] 3)) (.slice (some ⟨w2.heap.size, 0, none⟩) 2 2) [30, 1]) := hide (Or.inr ⟨w2.heap.size, 0, 2, rfl, by simp, by decide, by simp, fun j x hx => by
  have hb : (w2.alloc (.cells #[.int .i64 30, .int .i64 1] 3)).heap[w2.heap.size]? = some (.cells #[.int .i64 30, .int .i64 1] 3) := alloc_last w2 _
  match j, hx with
  | 0, hx => simp at hx; subst hx; exact (box2 hb).1.1
  | 1, hx => simp at hx; subst hx; exact (box2 hb).1.2
  | j + 2, hx => simp at hx⟩)
 have hg2 : w.heap.size ≤ w2.heap.size := Nat.le_of_lt (uh HK2).gt
 have HB2' := hide ((uh HB2).trans ((uh HA3).mono hg2))
 go_wp2_with fail
 refine (step_more w.heap.size h2 4 0 0 _ (some ⟨w2.heap.size, 0, none⟩) 2 2 [30, 1] _ (((uh HK2).below (uh HA3)).weaken (fun _ hf => hf.elim)) (by decide) (by decide) (by decide) (by decide) (by decide) (uh HI3) (by decide) ((uh HF2).fits (by decide)).2.2.1 ((uh HF2).fits (by decide)).2.2.2.1 (tab_below (uh HB2') (uh HT))).mono ?_
 rintro e w3 ⟨rfl, hb3, h3, hm3, hk3⟩
 have HB3 := hide ((uh HB2').trans hb3)
 have HK3 := hide hk3
 have HF3 := hide ((uh HF2).more hm3)
 clear hb3 hm3 hk3
 go_wp2_with fail
 go_loopg [7, 8] ops.length (fun gk ov iv wr => ∃ (j : Nat) (h' : Hist), j ≤ ops.length ∧ gk = ops.length - j ∧ iv = .int .i64 (j : Int) ∧ ov = .bool true ∧ LawAt wr w.heap.size h' (fun _ => False) ∧ Few h' (j + 3) ∧ Below w.heap.size w wr)
 case atStart => exact ⟨0, h3, by omega, rfl, rfl, rfl, uh HK3, uh HF3, uh HB3⟩
 case round =>
  obtain ⟨j, h', hj, hg, rfl, rfl, hk, hfew, hb⟩ := hrel
  have A : Aside (gk = ops.length - j ∧ LawAt wr w.heap.size h' (fun _ => False) ∧ Few h' (j + 3) ∧ Below w.heap.size w wr) := ⟨hg, hk, hfew, hb⟩
  clear hg hk hfew HK0 HB0 HF0 HB1 HK1 HF1 HB2 HK2 HF2 HA3 HI3 HB2' HB3 HK3 HF3
  by_cases hlt : j < ops.length
  ·rcases uh HV with ⟨h0, _⟩ | ⟨gs, off, cap', hv, hc, hmx, hgl, hxx⟩
   ·rw [h0] at hlt; simp at hlt
   simp only [Value.slice.injEq] at hv
   obtain ⟨rfl, _, rfl⟩ := hv
   obtain ⟨q0, q1, q2, q3, q4⟩ := hxx j ops[j] (List.getElem?_eq_getElem hlt)
   have k0 := (hb.cell (p := ⟨gs, off + j * 5, none⟩) hgl).trans q0
   have k1 := (hb.cell (p := ⟨gs, off + j * 5 + 1, none⟩) hgl).trans q1
   have k2 := (hb.cell (p := ⟨gs, off + j * 5 + 2, none⟩) hgl).trans q2
   have k3 := (hb.cell (p := ⟨gs, off + j * 5 + 3, none⟩) hgl).trans q3
   have k4 := (hb.cell (p := ⟨gs, off + j * 5 + 4, none⟩) hgl).trans q4
   clear q0 q1 q2 q3 q4
   obtain ⟨vals, hov⟩ := uh HOK ops[j] (List.getElem_mem hlt)
   have hjc : (j : Int) < ops.length := by omega
   have hjd : decide ((j : Int) < ops.length) = true := by simp; omega
   have hjcap : (j : Int) < cap := by omega
   have hcapm : (cap : Int) ≤ 9223372036854775807 := by unfold maxLen at hmx; omega
   have hjn : j + 3 ≤ 2199023256000 := by omega
   have HOV := hide (hov.below hb)
   have HSTEP : Hid (ops[j].k ≤ 5 → Calls Tryz.prog 33 #[.pointer (some ⟨w.heap.size, 0, none⟩), .agg #[.int .i64 ops[j].k, .int .i64 ops[j].p, .string ops[j].s, .int .i64 ops[j].c, .slice ops[j].vo ops[j].vn ops[j].vc]] wr (StepOf w.heap.size h' wr)) := hide (fun hk5 => stepAll w.heap.size h' ops[j] vals (j + 3) wr A.out.2.1 hk5 (uh HOV) A.out.2.2.1 hjn (tab_below hb (uh HT)))
   generalize ops[j] = o at *
   obtain ⟨k, p, s, c, vo, vn, vc⟩ := o
   simp only at k0 k1 k2 k3 k4 HSTEP
   have hgl' : gs < wr.heap.size := Nat.lt_of_lt_of_le hgl hb.size
   clear hxx hb hc hmx hgl hov
   by_cases hk : k ≤ 5
   ·go_wp2_with fail
    refine (uh HSTEP hk).mono ?_
    rintro e w4 ⟨rfl, hb4, h4, hm4, hk4⟩
    have HB4 := hide (A.out.2.2.2.trans hb4)
    have HK4 := hide hk4
    have HF4 := hide (A.out.2.2.1.more hm4)
    clear hb4 hm4 hk4 k0 k1 k2 k3 k4
    go_wp2_with fail
    refine (looksAt_any w.heap.size h4 _ _ (uh HK4)).mono ?_
    rintro e w5 ⟨rfl, hb5⟩
    have HB5 := hide ((uh HB4).trans (hb5.mono (Nat.le_of_lt (uh HK4).gt)))
    have HK5 := hide (((uh HK4).below hb5).weaken (Y := fun _ => False) (fun _ hf => hf.elim))
    clear hb5
    go_wp2_with fail
    go_roundg (ops.length - (j + 1))
    case measure => have := A.out.1; omega
    case rel => exact ⟨j + 1, h4, by omega, rfl, by go_num, rfl, uh HK5, (uh HF4).mono (by omega), uh HB5⟩
   ·go_wp2_with fail
    refine (looksAt_any w.heap.size h' _ _ A.out.2.1).mono ?_
    rintro e w5 ⟨rfl, hb5⟩
    have HB5 := hide (A.out.2.2.2.trans (hb5.mono (Nat.le_of_lt A.out.2.1.gt)))
    have HK5 := hide ((A.out.2.1.below hb5).weaken (Y := fun _ => False) (fun _ hf => hf.elim))
    clear hb5
    go_wp2_with fail
    go_roundg (ops.length - (j + 1))
    case measure => have := A.out.1; omega
    case rel => exact ⟨j + 1, h', by omega, rfl, by go_num, rfl, uh HK5, A.out.2.2.1.mono (by omega), uh HB5⟩
  ·have hjc : ¬ (j : Int) < ops.length := by omega
   have hjd : decide ((j : Int) < ops.length) = false := by simp; omega
   clear hb
   go_wp2_with fail
   go_ret
   exact ⟨rfl, A.out.2.2.2⟩
theorem evalsLaw_any (v : Value) (ops : List OpD) (w : World) (hv : OpsV w v ops) (hok : ∀ o ∈ ops, ∃ vals, OpOk w o vals) (hn : ops.length ≤ 2199023255552) (ht : Tab w) :
  Calls Tryz.prog 5 #[v] w fun e w' => e = .returned (.bool true) ∧ Below w.heap.size w w' := by
 obtain ⟨ao, cap, rfl⟩ := hv.form
 have HV := hide hv
 have HS := hide hok
 have HT := hide ht
 clear hv hok ht
 go_enter Tryz.func5, Tryz.ntmps5
 go_wp2_with fail
 refine (played5_any _ ops _ (uh HV) (uh HS) hn (uh HT)).mono ?_
 rintro e w1 ⟨rfl, hb⟩
 have HB := hide hb
 clear hb
 go_wp2_with fail
 go_ret
 exact ⟨rfl, uh HB⟩
end Go.Proofs.YthnggjaecngbiaaGreatDoor
