import Derived.Test.YthnggjaecngbiaaGreatDoorRfQ
namespace Go.Proofs.YthnggjaecngbiaaGreatDoor
open Go.RowKit
set_option maxRecDepth 100000 in
set_option maxHeartbeats 1600000 in
theorem step_plain (g : Nat) (h : Hist) (p c : Int) (s : ByteArray) (vo : Option Addr) (vn vc : Nat) (w : World) (k : LawAt w g h (fun _ => False)) (hs : s.size ≤ maxLen) (ht : Tab w) :
  Calls Tryz.prog 33 #[.pointer (some ⟨g, 0, none⟩), .agg #[.int .i64 1, .int .i64 p, .string s, .int .i64 c, .slice vo vn vc]] w (StepOf g h w) := by
 have hgl := k.gt
 have hb0 : Below w.heap.size w (w.alloc (.cells #[.int .i64 1, .int .i64 p, .string s, .int .i64 c, .slice vo vn vc] 82)) := (Below.refl _ w).alloc (Nat.le_refl _) _
 have HT0 := hide (tab_below hb0 ht)
 have HB0 := hide hb0
 have HM := hide hs
 have HK := hide k
 clear hb0 ht hs k
 go_enter Tryz.func33, Tryz.ntmps33
 go_wp2_with fail
 refine (plain_any s _ (uh HM) (uh HT0)).mono ?_
 rintro e w1 ⟨rfl, hb1⟩
 have hr1 := (hb1.block w.heap.size (by simp)).trans (alloc_last w _)
 obtain ⟨⟨k0, k1, k2, k3, k4⟩, -⟩ := cells5 hr1
 have HB1 := hide (below_after (uh HB0) hb1)
 clear hb1 hr1
 obtain ⟨r0, r1, r2, hr⟩ : ∃ r0 r1 r2, plainR s = (r0, r1, r2) := ⟨_, _, _, rfl⟩
 have HR := hide hr
 rw [hr]
 clear hr
 simp only
 go_wp2_with fail
 refine (rplain_any s _).mono ?_
 rintro e w2 ⟨rfl, hb2⟩
 rw [uh HR]
 simp only
 have HB2 := hide (below_after (uh HB1) hb2)
 clear hb2 k0 k1 k2 k3 k4
 go_wp2_with fail
 refine (num_any r2 _).mono ?_
 rintro e w3 ⟨rfl, rfl⟩
 go_wp2_with fail
 refine (num_any r2 _).mono ?_
 rintro e w3 ⟨rfl, rfl⟩
 go_wp2_with fail
 go_ret
 exact ⟨rfl, (uh HB2).mono (Nat.le_of_lt hgl), h, More.refl h, ((uh HK).below (uh HB2)).weaken (fun _ hf => hf.elim)⟩
set_option maxRecDepth 100000 in
set_option maxHeartbeats 3200000 in
theorem step_more (g : Nat) (h : Hist) (q p c : Int) (s : ByteArray) (vo : Option Addr) (vn vc : Nat) (vals : List Int) (w : World) (k : LawAt w g h (fun _ => False)) (hq5 : q ≤ 5) (hq1 : q ≠ 1) (hq2 : q ≠ 2) (hp1 : -9223372036854775808 ≤ p) (hp2 : p ≤ 9223372036854775807)
  (hv : InSl w (.slice vo vn vc) vals)
  (hl : (vals.length + 8) * 8 ≤ 140737488355328) (hls : (h.ls.length + 1 + (h.ls.length + 1) / 4 + 192) * 24 ≤ 281474976710656) (hvs : (h.vs.length + 4 + (h.vs.length + 4) / 4 + 192) * 24 ≤ 281474976710656) (ht : Tab w) :
  Calls Tryz.prog 33 #[.pointer (some ⟨g, 0, none⟩), .agg #[.int .i64 q, .int .i64 p, .string s, .int .i64 c, .slice vo vn vc]] w (StepOf g h w) := by
 have hgl := k.gt
 have e1 : (q == 1) = false := by rw [beq_eq_false_iff_ne]; exact hq1
 have e2 : (q == 2) = false := by rw [beq_eq_false_iff_ne]; exact hq2
 obtain ⟨v0, _, _, _, _, _, ⟨c0, -, -, -, -, -⟩, s0, -, -, -, -, -⟩ := k.read
 obtain ⟨o0, p0, rfl⟩ := s0.form
 have hmx := s0.len_le
 obtain ⟨w0, hw0⟩ : ∃ w0, w0 = w.alloc (.cells #[.int .i64 q, .int .i64 p, .string s, .int .i64 c, .slice vo vn vc] 82) := ⟨_, rfl⟩
 have hb0 : Below w.heap.size w w0 := by rw [hw0]; exact (Below.refl _ w).alloc (Nat.le_refl _) _
 have HN0 : Hid (w0.heap[w.heap.size]? = some (.cells #[.int .i64 q, .int .i64 p, .string s, .int .i64 c, .slice vo vn vc] 82)) := hide (by rw [hw0]; exact alloc_last w _)
 have HB0 := hide hb0
 have HK := hide k
 by_cases hz : h.ps.length = 0
 ·have l0 : ((h.ps.length : Int) == 0) = true := by rw [hz]; rfl
  clear k hv hl hls hvs ht hb0 s0 hw0
  have HB1 : Hid (Below w.heap.size w (w.alloc (.cells #[.int .i64 q, .int .i64 p, .string s, .int .i64 c, .slice vo vn vc] 82))) := hide ((Below.refl _ w).alloc (Nat.le_refl _) _)
  clear hz
  go_enter Tryz.func33, Tryz.ntmps33
  go_wp2_with fail
  go_ret
  exact ⟨rfl, (uh HB1).mono (Nat.le_of_lt hgl), h, More.refl h, ((uh HK).below (uh HB1)).weaken (fun _ hf => hf.elim)⟩
 ·have l0 : ((h.ps.length : Int) == 0) = false := by rw [beq_eq_false_iff_ne]; omega
  have hpos : 0 < h.ps.length := by omega
  have c0' : w0.cell? ⟨g, 0, none⟩ = some (.slice o0 h.ps.length p0) := (hb0.cell (p := ⟨g, 0, none⟩) hgl).trans c0
  have hgl0 : g < w0.heap.size := Nat.lt_of_lt_of_le hgl hb0.size
  obtain ⟨gp, rfl, -, -, hgp⟩ := (s0.below hb0).at2 hpos
  have HPC : Hid (∀ i, i < h.ps.length → ∃ gx gy its, (gx, gy, its) ∈ h.ps ∧ w0.cell? ⟨gp, i * 2, none⟩ = some (.pointer (some ⟨gx, 0, none⟩)) ∧ w0.cell? ⟨gp, i * 2 + 1, none⟩ = some (.pointer (some ⟨gy, 0, none⟩))) := hide (fun i hi => by
   obtain ⟨gp', hgp', b0, b1, _⟩ := (s0.below hb0).at2 hi
   simp only [Option.some.injEq, Addr.mk.injEq, and_true] at hgp'
   subst hgp'
   have f0 := flat_at (fun p : Nat × Nat × List PItem => [Value.pointer (some ⟨p.1, 0, none⟩), Value.pointer (some ⟨p.2.1, 0, none⟩)]) 2 (fun _ => rfl) h.ps i 0 hi (by omega)
   have f1 := flat_at (fun p : Nat × Nat × List PItem => [Value.pointer (some ⟨p.1, 0, none⟩), Value.pointer (some ⟨p.2.1, 0, none⟩)]) 2 (fun _ => rfl) h.ps i 1 hi (by omega)
   rw [Nat.add_zero] at f0
   exact ⟨h.ps[i].1, h.ps[i].2.1, h.ps[i].2.2, List.getElem_mem hi, b0.trans f0, b1.trans f1⟩)
  obtain ⟨⟨k0, k1, k2, k3, k4⟩, -⟩ := cells5 (uh HN0)
  have hs0 := lt_of_block (uh HN0)
  have HV := hide hv
  have HL := hide hl
  have HLS := hide hls
  have HVS := hide hvs
  have HT := hide ht
  clear k hv hl hls hvs ht hb0 s0 hz
  go_enter Tryz.func33, Tryz.ntmps33
  go_wp2_with fail
  rw [← hw0]
  clear hw0
  obtain ⟨i, hpi⟩ : ∃ i, pickL p h.ps.length = i := ⟨_, rfl⟩
  have hi : i < h.ps.length := by rw [← hpi]; exact pickL_lt hpos
  obtain ⟨gx, gy, its, hmem, b0, b1⟩ := uh HPC i hi
  have hic : (i : Int) < h.ps.length := by omega
  have HPI := hide hpi
  have hn1 := World.new_ne w0 ⟨g, 0, none⟩ c0'
  have hn2 := World.new_ne w0 ⟨w.heap.size, 1, none⟩ k1
  have hn3 := World.new_ne w0 ⟨gp, i * 2, none⟩ b0
  clear hpi
  obtain ⟨w2, hw2⟩ : ∃ w2, w2 = (w0.alloc (.cells #[.pointer (some ⟨gx, 0, none⟩), .pointer (some ⟨gy, 0, none⟩)] 105)).drew := ⟨_, rfl⟩
  have HB2 : Hid (Below w0.heap.size w0 w2) := hide (by rw [hw2]; exact ((Below.refl _ w0).alloc (Nat.le_refl _) _).drew)
  have HNP : Hid (w2.heap[w0.heap.size]? = some (.cells #[.pointer (some ⟨gx, 0, none⟩), .pointer (some ⟨gy, 0, none⟩)] 105)) := hide (by rw [hw2]; exact alloc_last w0 _)
  have HN2 := hide (((uh HB2).block _ hs0).trans (uh HN0))
  have HB02 := hide (below_after (uh HB0) (uh HB2))
  have HK2 := hide (((uh HK).below (uh HB02)).weaken (Y := fun _ => False) (fun _ hf => hf.elim))
  have HPX := hide ((uh HK2).still.ps _ hmem).1
  have HPY := hide ((uh HK2).still.ps _ hmem).2
  have HBG := hide ((uh HB02).mono (Nat.le_of_lt hgl))
  have HMM := hide hmem
  clear hmem
  go_region_held3 (fun w' => w'.cell? ⟨g, 0, none⟩ = some (.slice (some ⟨gp, 0, none⟩) h.ps.length p0) ∧ w'.cell? ⟨w.heap.size, 1, none⟩ = some (.int .i64 p) ∧ w'.cell? ⟨gp, i * 2, none⟩ = some (.pointer (some ⟨gx, 0, none⟩)) ∧ w'.cell? ⟨gp, i * 2 + 1, none⟩ = some (.pointer (some ⟨gy, 0, none⟩))) (go_keep) (first | (go_at_call 56; refine (lpick_any p h.ps.length _ hpos hmx hp1 hp2).mono ?_; rintro e w5 ⟨rfl, rfl⟩; rw [uh HPI]))
  all_goals
   rw [← hw2]
   clear hw2 c0 c0' k0 k1 k2 k3 k4 b0 b1 hn1 hn2 hn3
   obtain ⟨⟨m0, m1, m2, m3, m4⟩, -⟩ := cells5 (uh HN2)
   obtain ⟨⟨n0, n1⟩, -⟩ := box2 (uh HNP)
   have hs2 := lt_of_block (uh HN2)
   have hsp := lt_of_block (uh HNP)
   by_cases h3 : q = 3
   ·subst h3
    go_wp2_with fail
    refine (label_any gx its s _ (uh HPX)).mono ?_
    rintro e w3 ⟨rfl, hb3⟩
    obtain ⟨la, le, hlr⟩ : ∃ la le, labelP its s = (la, le) := ⟨_, _, rfl⟩
    have HLR := hide hlr
    rw [hlr]
    have hn3 := (hb3.block _ hs2).trans (uh HN2)
    have hp3 := (hb3.block _ hsp).trans (uh HNP)
    clear m0 m1 m2 m3 m4 n0 n1 hlr
    obtain ⟨⟨_, _, m2, _, _⟩, -⟩ := cells5 hn3
    obtain ⟨⟨_, n1⟩, -⟩ := box2 hp3
    have hs3 := lt_of_block hn3
    have hsp3 := lt_of_block hp3
    have HB3 := hide hb3
    clear hb3 hn3 hp3
    simp only
    go_wp2_with fail
    refine (rLabel_any gy its s _ ((uh HPY).below (uh HB3))).mono ?_
    rintro e w4 ⟨rfl, hb4⟩
    rw [uh HLR]
    have HB4 := hide (below_after (uh HB3) hb4)
    clear hb4 m2 n1
    simp only
    go_wp2_with fail
    refine (num_any _ _).mono ?_
    rintro e w8 ⟨rfl, rfl⟩
    go_wp2_with fail
    refine (num_any _ _).mono ?_
    rintro e w9 ⟨rfl, rfl⟩
    go_wp2_with fail
    go_ret
    exact ⟨by simp, (uh HBG).trans ((uh HB4).mono (Nat.le_of_lt (uh HK2).gt)), h, More.refl h, ((uh HK2).below (uh HB4)).weaken (fun _ hf => hf.elim)⟩
   ·have e3 : (q == 3) = false := by rw [beq_eq_false_iff_ne]; exact h3
    by_cases h4 : q = 4
    ·subst h4
     go_wp2_with fail
     refine (evals_any g h gx gy its _ vals _ (uh HK2) (uh HMM) ((uh HV).below (uh HB02)) (uh HL) (uh HLS) (uh HVS)).mono ?_
     rintro e w3 ⟨rfl, hb3, l1, l2, hl1, hl2, hk3⟩
     have HB3 := hide ((uh HBG).trans hb3)
     have HK3 := hide hk3
     have HM3 : Hid (More h { h with ls := h.ls ++ l1, vs := h.vs ++ l2 }) := hide ⟨by simp, by simp [hl2], by simp [hl1], by simp⟩
     clear hb3 hk3 hl1 hl2
     go_wp2_with fail
     go_ret
     exact ⟨rfl, uh HB3, _, uh HM3, uh HK3⟩
    ·have e4 : (q == 4) = false := by rw [beq_eq_false_iff_ne]; exact h4
     by_cases h5 : q = 5
     ·subst h5
      go_wp2_with fail
      refine (explains_any g h gx gy its c _ vals _ (uh HK2) (uh HMM) ((uh HV).below (uh HB02)) (uh HL) (uh HLS) (tab_below (uh HB02) (uh HT))).mono ?_
      rintro e w3 ⟨rfl, hb3, l1, hl1, hk3⟩
      have HB3 := hide ((uh HBG).trans hb3)
      have HK3 := hide hk3
      have HM3 : Hid (More h { h with ls := h.ls ++ l1 }) := hide ⟨by simp, by simp, by simp [hl1], by simp⟩
      clear hb3 hk3 hl1
      go_wp2_with fail
      go_ret
      exact ⟨rfl, uh HB3, _, uh HM3, uh HK3⟩
     ·have e5 : (q == 5) = false := by rw [beq_eq_false_iff_ne]; exact h5
      have e6 : (q == 6) = false := by rw [beq_eq_false_iff_ne]; omega
      have e7 : (q == 7) = false := by rw [beq_eq_false_iff_ne]; omega
      go_wp2_with fail
      go_ret
      exact ⟨rfl, uh HBG, h, More.refl h, uh HK2⟩
end Go.Proofs.YthnggjaecngbiaaGreatDoor
