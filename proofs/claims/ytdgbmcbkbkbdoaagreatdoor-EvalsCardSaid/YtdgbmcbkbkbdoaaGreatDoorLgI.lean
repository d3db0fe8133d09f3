import Derived.Test.YtdgbmcbkbkbdoaaGreatDoorLgH
import Derived.Test.YtdgbmcbkbkbdoaaGreatDoorRgI
import Derived.Test.YtdgbmcbkbkbdoaaGreatDoorLwT
namespace Go.Proofs.YtdgbmcbkbkbdoaaGreatDoor
open Go.RowKit
def evT (its : List PItem) (vals : List Int) : List PVal := if fitsP its vals = true then tabsP its vals else []
def evE (its : List PItem) (vals : List Int) : Int := if fitsP its vals = true then 0 else 7
theorem EvalOf.uni {its : List PItem} {vals : List Int} {w w' : World} {e : Ending} (h : EvalOf its vals w e w') : ∃ lo lc, e = .returned (.tuple #[.slice lo (evT its vals).length lc, .int .i64 (evE its vals)]) ∧ Below w.heap.size w w' ∧ w'.ownsRow w.heap.size 51 2 (.slice lo (evT its vals).length lc) (evT its vals).length ((evT its vals).flatMap vcells) := by
 rcases h with ⟨h1, h2, h3⟩ | ⟨h1, ao, cap, h2, h3, h4⟩
 ·have e1 : evT its vals = [] := by unfold evT; rw [h1]; rfl
  have e2 : evE its vals = 7 := by unfold evE; rw [h1]; rfl
  rw [e1, e2]
  exact ⟨none, 0, h2, h3, World.ownsRow_nil _ _ _ _⟩
 ·have e1 : evT its vals = tabsP its vals := by unfold evT; rw [h1]; rfl
  have e2 : evE its vals = 0 := by unfold evE; rw [h1]; rfl
  rw [e1, e2]
  exact ⟨ao, cap, h2, h3, h4⟩
theorem evT_len {its : List PItem} (ok : OkPlan its) (vals : List Int) : (evT its vals).length ≤ 12 := by
 unfold evT
 split
 ·have := tabsTo_len its (resP its vals) its.length
  have := ok.len
  unfold tabsP
  omega
 ·simp
theorem lent_sl {w : World} {base gb gc : Nat} {vals : List Int} (h : w.ownsRow base 3 1 (.slice (some ⟨gb, 0, none⟩) (vals.length + 8) gc) (vals.length + 8) (lentL vals 8)) : SlAt w 1 (.slice (some ⟨gb, 0, none⟩) vals.length gc) vals.length (ints vals) := by
 rcases SlAt.of_owns h with ⟨h0, _⟩ | ⟨g', c', hv, h1, h2, h3, h4⟩
 ·omega
 simp only [Value.slice.injEq, Option.some.injEq, Addr.mk.injEq, and_true, true_and] at hv
 obtain ⟨rfl, rfl⟩ := hv
 refine Or.inr ⟨gb, gc, rfl, by omega, h2, h3, fun j hj => ?_⟩
 rw [h4 j (by omega), lentL_in (by omega)]
 have : j < vals.length := by omega
 simp [ints, this]
set_option maxRecDepth 100000 in
set_option maxHeartbeats 3200000 in
theorem evals_any (g : Nat) (h : Hist) (gx gy : Nat) (its : List PItem) (vl : Value) (vals : List Int) (w : World) (k : LawAt w g h (fun _ => False)) (hp : (gx, gy, its) ∈ h.ps) (hv : InSl w vl vals)
  (hl : (vals.length + 8) * 8 ≤ 140737488355328) (hls : (h.ls.length + 1 + (h.ls.length + 1) / 4 + 192) * 24 ≤ 281474976710656) (hvs : (h.vs.length + 4 + (h.vs.length + 4) / 4 + 192) * 24 ≤ 281474976710656) :
  Calls Tryz.prog 49 #[.pointer (some ⟨g, 0, none⟩), .agg #[.pointer (some ⟨gx, 0, none⟩), .pointer (some ⟨gy, 0, none⟩)], vl] w fun e w' => e = .returned (.bool true) ∧ Below g w w' ∧ ∃ l1 l2, l1.length = 1 ∧ l2.length = 4 ∧ LawAt w' g { h with ls := h.ls ++ l1, vs := h.vs ++ l2 } (fun _ => False) := by
 have hgl := k.gt
 obtain ⟨hpx, hpy⟩ := k.still.ps _ hp
 simp only at hpx hpy
 have hok : OkPlan its := by obtain ⟨_, _, _, _, _, _, h6⟩ := hpx; exact h6
 have htl := evT_len hok vals
 obtain ⟨vo, vc, rfl⟩ := hv.form
 obtain ⟨w0, hw0⟩ : ∃ w0, w0 = w.alloc (.cells #[.pointer (some ⟨gx, 0, none⟩), .pointer (some ⟨gy, 0, none⟩)] 100) := ⟨_, rfl⟩
 have hb0 : Below w.heap.size w w0 := by rw [hw0]; exact (Below.refl _ w).alloc (Nat.le_refl _) _
 have HN0 : Hid (w0.heap[w.heap.size]? = some (.cells #[.pointer (some ⟨gx, 0, none⟩), .pointer (some ⟨gy, 0, none⟩)] 100)) := hide (by rw [hw0]; exact alloc_last w _)
 have HB0 := hide hb0
 have HK := hide k
 have HPX := hide hpx
 have HPY := hide hpy
 have HV := hide hv
 have HL := hide hl
 have HLS := hide hls
 have HVS := hide hvs
 have hvlen : vals.length ≤ 17592186044416 := by clear hls hvs; omega
 clear k hp hv hl hls hvs hpx hpy hok hb0
 go_enter Tryz.func49, Tryz.ntmps49
 go_wp2_with fail
 rw [← hw0]
 clear hw0
 refine (lend_any g _ vals _ ((uh HV).below (uh HB0)) (uh HL)).mono ?_
 rintro e w1 ⟨gb, gc, rfl, hb1, ho1⟩
 have HB1 := hide (below_after (uh HB0) hb1)
 have HO1 := hide ho1
 have hN1 := (hb1.block _ (lt_of_block (uh HN0))).trans (uh HN0)
 obtain ⟨⟨n0, n1⟩, -⟩ := box2 hN1
 have HN1 := hide hN1
 have hs1 := lt_of_block hN1
 have hgb : w0.heap.size ≤ gb ∧ gb < w1.heap.size := ho1.lt gb rfl
 have hgc : vals.length + 8 ≤ gc := by
  rcases ho1.2 with ⟨hv, _⟩ | ⟨g', c', cur, hv, _, _, h1, _⟩
  ·simp at hv
  ·simp only [Value.slice.injEq, true_and] at hv
   omega
 clear hb1 ho1 hN1
 have HCE : Hid (∀ w', Below w1.heap.size w1 w' → w'.cell? ⟨w.heap.size, 0, none⟩ = some (.pointer (some ⟨gx, 0, none⟩)) ∧ w'.cell? ⟨w.heap.size, 1, none⟩ = some (.pointer (some ⟨gy, 0, none⟩))) := hide (fun w' hb' => (box2 ((hb'.block _ hs1).trans (uh HN1))).1)
 have HSL := hide (lent_sl (uh HO1))
 have hcc : (vals.length : Int) ≤ gc := by omega
 go_wp2_with fail
 go_region_held3 (fun w' => w'.cell? ⟨w.heap.size, 0, none⟩ = some (.pointer (some ⟨gx, 0, none⟩)) ∧ w'.cell? ⟨w.heap.size, 1, none⟩ = some (.pointer (some ⟨gy, 0, none⟩))) (go_keep) (first | (go_at_call 18; refine (eval_any gx its _ vals _ ((uh HPX).below (uh HB1).drew) ((uh HSL).below (Below.refl _ _).drew)).mono ?_; rintro e w2 hev; obtain ⟨lo, lc, rfl, hb2, ho2⟩ := hev.uni; have HB2 := hide (below_of_drew hb2); have HO2 := hide ho2; obtain ⟨m0, m1⟩ := uh HCE _ (below_of_drew hb2); clear hb2 ho2 hev))
 have hs2 : w.heap.size < w2.heap.size := Nat.lt_of_lt_of_le hs1 (uh HB2).size
 clear n0 n1
 have HB02 := hide (below_after (uh HB1) (uh HB2))
 go_wp2_with fail
 refine (rEval_any gy its _ vals _ ((uh HPY).below (uh HB02)) ((uh HV).below (uh HB02))).mono ?_
 rintro e w3 hev
 obtain ⟨ko, kc, rfl, hb3, ho3⟩ := hev.uni
 have HB3 := hide hb3
 have HB03 := hide (below_after (uh HB02) hb3)
 have HO3 := hide ho3
 clear hb3 ho3 hev m0 m1
 go_wp2_with fail
 refine (sameValues_any _ _ (evT its vals) _ ((SlAt.of_owns (uh HO2)).below (uh HB3)) (SlAt.of_owns (uh HO3)) (by omega)).mono ?_
 rintro e w4 ⟨rfl, hb4⟩
 have HB4 := hide (below_after (uh HB3) hb4)
 have HB04 := hide (below_after (uh HB03) hb4)
 clear hb4
 go_wp2_with fail
 refine (looksAt_any g h _ _ ((uh HK).below (uh HB04))).mono ?_
 rintro e w5 ⟨rfl, hb5⟩
 have hB25 : Below w2.heap.size w2 w5 := below_after (uh HB4) hb5
 have hB05 := below_after (uh HB04) hb5
 have hk5 := (uh HK).below hB05
 have ho5 : w5.ownsRow g 3 1 (.slice (some ⟨gb, 0, none⟩) (vals.length + 8) gc) (vals.length + 8) (lentL vals 8) := owns_base (owns_below (uh HO1) (below_after (uh HB2) hB25)) (by have := (uh HB0).size; omega)
 have hgbX : False ∨ (w.heap.size ≤ gb ∧ gb < w5.heap.size) := Or.inr ⟨by have := (uh HB0).size; omega, by have := (uh HB2).size; have := hB25.size; omega⟩
 have hl5 := owns_base (owns_below (uh HO2) hB25) (base' := g) (by have := (uh HB1).size; simp; omega)
 have hlb : ∀ b, (Value.slice lo (evT its vals).length lc).ownBlock = some b → w1.heap.size ≤ b ∧ b < w5.heap.size := fun b hb => by
  have h1 := (uh HO2).lt b hb
  have h2 := hB25.size
  simp at h1
  omega
 have HLB := hide hlb
 have HL5 := hide hl5
 have HB05 := hide (hB05.mono (Nat.le_of_lt hgl))
 have HIS := hide ((uh HV).below hB05)
 have HK5 := hide hk5
 have HO5 := hide ho5
 have HGX := hide hgbX
 have hsw := (uh HB1).size
 have hs01 := (uh HB0).size
 clear hb5 hB25 hB05 hk5 ho5 hl5 hlb hgbX
 go_wp2_with fail
 refine (whole_any g h _ gb gc _ vals _ (uh HK5) (uh HO5) (uh HGX) (uh HIS) (fun hne a n c he => by
  rcases uh HV with ⟨h0, _⟩ | ⟨g', off', c', hv', _, _, hg', _⟩
  ·exact absurd h0 hne
  ·rw [hv'] at he
   simp only [Value.slice.injEq, Option.some.injEq] at he
   rw [← he.1]
   simp only
   omega) (uh HLS)).mono ?_
 rintro e w6 ⟨rfl, hk6, hb6, hx6⟩
 have hl6 : w6.ownsRow g 51 2 (.slice lo (evT its vals).length lc) (evT its vals).length ((evT its vals).flatMap vcells) := owns_same (uh HL5) (fun b hb => by
  have := uh HLB b hb
  exact hx6 b (Or.inr ⟨by omega, by omega⟩) (by omega))
 have hX6 : ∀ b, (Value.slice lo (evT its vals).length lc).ownBlock = some b → (False ∨ (w.heap.size ≤ b ∧ b < w5.heap.size)) ∧ b ≠ gb := fun b hb => by
  have := uh HLB b hb
  exact ⟨Or.inr ⟨by omega, by omega⟩, by omega⟩
 have HK6 := hide hk6
 have HB6 := hide ((uh HB05).trans hb6)
 have HL6 := hide hl6
 have HX6 := hide hX6
 clear hk6 hb6 hx6 hl6 hX6
 go_wp2_with fail
 refine (ownValues_any g _ _ lo _ lc _ _ (uh HK6) (uh HL6) (uh HX6) (by omega) (uh HVS)).mono ?_
 rintro e w7 ⟨rfl, hb7, l2, hl2, hk7⟩
 have HK7 := hide hk7
 have HB7 := hide ((uh HB6).trans hb7)
 clear hk7 hb7
 go_wp2_with fail
 refine (num_any _ _).mono ?_
 rintro e w8 ⟨rfl, rfl⟩
 go_wp2_with fail
 refine (num_any _ _).mono ?_
 rintro e w9 ⟨rfl, rfl⟩
 go_wp2_with fail
 go_ret
 exact ⟨by simp, uh HB7, _, l2, rfl, hl2, uh HK7⟩
end Go.Proofs.YtdgbmcbkbkbdoaaGreatDoor
namespace Go.Proofs.YtdgbmcbkbkbdoaaGreatDoor
open Go.RowKit
set_option maxRecDepth 100000 in
set_option maxHeartbeats 3200000 in
theorem explains_any (g : Nat) (h : Hist) (gx gy : Nat) (its : List PItem) (clear : Int) (vl : Value) (vals : List Int) (w : World) (k : LawAt w g h (fun _ => False)) (hp : (gx, gy, its) ∈ h.ps) (hv : InSl w vl vals)
  (hl : (vals.length + 8) * 8 ≤ 140737488355328) (hls : (h.ls.length + 1 + (h.ls.length + 1) / 4 + 192) * 24 ≤ 281474976710656) (ht : Tab w) :
  Calls Tryz.prog 50 #[.pointer (some ⟨g, 0, none⟩), .agg #[.pointer (some ⟨gx, 0, none⟩), .pointer (some ⟨gy, 0, none⟩)], .int .i64 clear, vl] w fun e w' => e = .returned (.bool true) ∧ Below g w w' ∧ ∃ l1, l1.length = 1 ∧ LawAt w' g { h with ls := h.ls ++ l1 } (fun _ => False) := by
 have hgl := k.gt
 obtain ⟨hpx, hpy⟩ := k.still.ps _ hp
 simp only at hpx hpy
 obtain ⟨vo, vc, rfl⟩ := hv.form
 obtain ⟨w0, hw0⟩ : ∃ w0, w0 = w.alloc (.cells #[.pointer (some ⟨gx, 0, none⟩), .pointer (some ⟨gy, 0, none⟩)] 100) := ⟨_, rfl⟩
 have hb0 : Below w.heap.size w w0 := by rw [hw0]; exact (Below.refl _ w).alloc (Nat.le_refl _) _
 have HN0 : Hid (w0.heap[w.heap.size]? = some (.cells #[.pointer (some ⟨gx, 0, none⟩), .pointer (some ⟨gy, 0, none⟩)] 100)) := hide (by rw [hw0]; exact alloc_last w _)
 have HB0 := hide hb0
 have HK := hide k
 have HPX := hide hpx
 have HPY := hide hpy
 have HV := hide hv
 have HL := hide hl
 have HLS := hide hls
 have HT := hide ht
 have hvlen : vals.length ≤ 17592186044416 := by clear hls; omega
 clear k hp hv hl hls hpx hpy hb0 ht
 go_enter Tryz.func50, Tryz.ntmps50
 go_wp2_with fail
 rw [← hw0]
 clear hw0
 refine (lend_any g _ vals _ ((uh HV).below (uh HB0)) (uh HL)).mono ?_
 rintro e w1 ⟨gb, gc, rfl, hb1, ho1⟩
 have HB1 := hide (below_after (uh HB0) hb1)
 have HO1 := hide ho1
 have hN1 := (hb1.block _ (lt_of_block (uh HN0))).trans (uh HN0)
 obtain ⟨⟨n0, n1⟩, -⟩ := box2 hN1
 have HN1 := hide hN1
 have hs1 := lt_of_block hN1
 have hgb : w0.heap.size ≤ gb ∧ gb < w1.heap.size := ho1.lt gb rfl
 have hgc : vals.length + 8 ≤ gc := by
  rcases ho1.2 with ⟨hv, _⟩ | ⟨g', c', cur, hv, _, _, h1, _⟩
  ·simp at hv
  ·simp only [Value.slice.injEq, true_and] at hv
   omega
 clear hb1 ho1 hN1
 have HCE : Hid (∀ w', Below w1.heap.size w1 w' → w'.cell? ⟨w.heap.size, 0, none⟩ = some (.pointer (some ⟨gx, 0, none⟩)) ∧ w'.cell? ⟨w.heap.size, 1, none⟩ = some (.pointer (some ⟨gy, 0, none⟩))) := hide (fun w' hb' => (box2 ((hb'.block _ hs1).trans (uh HN1))).1)
 have HSL := hide (lent_sl (uh HO1))
 have hcc : (vals.length : Int) ≤ gc := by omega
 go_wp2_with fail
 obtain ⟨er, hr⟩ : ∃ er, explR its clear vals = er := ⟨_, rfl⟩
 have HR := hide hr
 clear hr
 go_region_held3 (fun w' => w'.cell? ⟨w.heap.size, 0, none⟩ = some (.pointer (some ⟨gx, 0, none⟩)) ∧ w'.cell? ⟨w.heap.size, 1, none⟩ = some (.pointer (some ⟨gy, 0, none⟩))) (go_keep) (first | (go_at_call 15; refine (explain_any gx its clear _ vals _ ((uh HPX).below (uh HB1).drew) ((uh HSL).below (Below.refl _ _).drew) (tab_below (uh HB1).drew (uh HT))).mono ?_; rintro e w2 ⟨rfl, hb2⟩; rw [uh HR]; have HB2 := hide (below_of_drew hb2); obtain ⟨m0, m1⟩ := uh HCE _ (below_of_drew hb2); clear hb2))
 obtain ⟨es, ee⟩ := er
 have hs2 : w.heap.size < w2.heap.size := Nat.lt_of_lt_of_le hs1 (uh HB2).size
 clear n0 n1
 have HB02 := hide (below_after (uh HB1) (uh HB2))
 go_wp2_with fail
 refine (rExplain_any gy its clear _ vals _ ((uh HPY).below (uh HB02)) ((uh HV).below (uh HB02))).mono ?_
 rintro e w5 ⟨rfl, hb3⟩
 rw [uh HR]
 have hB25 : Below w2.heap.size w2 w5 := hb3
 have hB05 := below_after (uh HB02) hb3
 have hk5 := (uh HK).below hB05
 have ho5 : w5.ownsRow g 3 1 (.slice (some ⟨gb, 0, none⟩) (vals.length + 8) gc) (vals.length + 8) (lentL vals 8) := owns_base (owns_below (uh HO1) (below_after (uh HB2) hB25)) (by have := (uh HB0).size; omega)
 have hgbX : False ∨ (w.heap.size ≤ gb ∧ gb < w5.heap.size) := Or.inr ⟨by have := (uh HB0).size; omega, by have := (uh HB2).size; have := hB25.size; omega⟩
 have HB05 := hide (hB05.mono (Nat.le_of_lt hgl))
 have HIS := hide ((uh HV).below hB05)
 have HK5 := hide hk5
 have HO5 := hide ho5
 have HGX := hide hgbX
 have hsw := (uh HB1).size
 have hs01 := (uh HB0).size
 clear hb3 hB25 hB05 hk5 ho5 hgbX m0 m1
 go_wp2_with fail
 refine (whole_any g h _ gb gc _ vals _ (uh HK5) (uh HO5) (uh HGX) (uh HIS) (fun hne a n c he => by
  rcases uh HV with ⟨h0, _⟩ | ⟨g', off', c', hv', _, _, hg', _⟩
  ·exact absurd h0 hne
  ·rw [hv'] at he
   simp only [Value.slice.injEq, Option.some.injEq] at he
   rw [← he.1]
   simp only
   omega) (uh HLS)).mono ?_
 rintro e w6 ⟨rfl, hk6, hb6, hx6⟩
 have HK6 := hide (hk6.weaken (Y := fun _ => False) (fun _ hf => hf.elim))
 have HB6 := hide ((uh HB05).trans hb6)
 clear hk6 hb6 hx6
 go_wp2_with fail
 refine (num_any _ _).mono ?_
 rintro e w8 ⟨rfl, rfl⟩
 go_wp2_with fail
 refine (num_any _ _).mono ?_
 rintro e w9 ⟨rfl, rfl⟩
 go_wp2_with fail
 go_ret
 exact ⟨by simp, uh HB6, _, rfl, uh HK6⟩
end Go.Proofs.YtdgbmcbkbkbdoaaGreatDoor
