import Derived.Test.YthnggjaecngbiaaGreatDoorKpD
namespace Go.Proofs.YthnggjaecngbiaaGreatDoor
open Go.RowKit

theorem checkL_ne {rest : List PItem} : ∀ ahead, (checkL ahead rest).2 = 0 ∨ (checkL ahead rest).2 ≠ 0 := fun _ => by omega
theorem planOf_inl_ne {s : ByteArray} {n : Nat} {e : Int} (h : planOf s = .inl (n, e)) : (e != 0) = true := by
  unfold planOf at h
  split at h
  · simp only [Sum.inl.injEq, Prod.mk.injEq] at h; rw [← h.2]; rfl
  split at h
  · simp only [Sum.inl.injEq, Prod.mk.injEq] at h; rw [← h.2]; rfl
  · split at h
    · cases h
    · rename_i hz
      simp only [Sum.inl.injEq, Prod.mk.injEq] at h
      rw [← h.2, bne_iff_ne]; exact hz
theorem planOf_wf {s : ByteArray} {its : List PItem} (h : planOf s = .inr its) : ∀ it ∈ its, WfI it := by
  unfold planOf at h
  split at h
  · cases h
  rename_i h1
  split at h
  · cases h
  rename_i its' hp
  split at h
  · simp only [Sum.inr.injEq] at h
    rw [← h]
    exact (planR_wf (by omega) hp).2
  · cases h
theorem kis_succ {its : List PItem} {j : Nat} (h : j < its.length) : kis (its.take (j + 1)) = kis (its.take j) ++ kcells (kOf its[j]) := by
  unfold kis
  rw [List.take_succ_eq_append_getElem h, List.flatMap_append]
  simp

theorem owns_row' {w : World} {base : Nat} {e : TypeId} {size : Nat} {v : Value} {n : Nat} {xs : List Value} (h : w.ownsRow base e size v n xs) (j : Nat) (hj : v.ownBlock = some j) : base ≤ j ∧ ∃ c, w.heap[j]? = some (.cells c e) := by
  refine ⟨(h.lt j hj).1, ?_⟩
  obtain ⟨h1, h2⟩ := h
  rcases h2 with ⟨h2, _⟩ | ⟨g, cap, cur, hv, hg, hh, r⟩
  · subst h2; simp [Value.ownBlock] at hj
  · subst hv; simp [Value.ownBlock] at hj; subst hj; exact ⟨_, hh⟩
/-- The items' row has grown: all else is as it was. -/
theorem run_push {w wx w7 : World} {b x : Nat} {cb cx : Array Value} {v v' : Value} {n n' : Nat} {xs ys : List Value} {o : Obj}
    (hb : Below w.heap.size w wx) (hN : wx.heap[b]? = some (.cells cb 38)) (hX : wx.heap[x]? = some (.cells cx 45)) (ho : wx.drew.ownsRow w.heap.size 45 3 v n xs) (hr : ∀ r, v.ownBlock = some r → r < x) (hg : (wx.drew.alloc o).grownBy w7 v.ownBlock) (hw : w7.ownsRow w.heap.size 45 3 v' n' ys) :
    Below w.heap.size w w7 ∧ w7.heap[b]? = some (.cells cb 38) ∧ w7.heap[x]? = some (.cells cx 45) ∧ w7.ownsRow w.heap.size 45 3 v' n' ys := by
  have hb' : Below w.heap.size w (wx.drew.alloc o) := (show Below w.heap.size w wx.drew from ⟨hb.os, hb.tape, hb.output, hb.size, hb.block⟩).alloc hb.size o
  refine ⟨below_grown hb' hg (fun q hq => (ho.lt q hq).1), ?_, ?_, hw⟩
  · rw [hg.block b (by have := lt_of_block hN; simp; omega) (fun e => by
      obtain ⟨_, c', hc'⟩ := owns_row' ho b e.symm
      have hc2 : wx.heap[b]? = some (.cells c' 45) := hc'
      rw [hN] at hc2
      simp at hc2), Below.heap_alloc _ _ _ (show b < wx.drew.heap.size from lt_of_block hN)]
    exact hN
  · rw [hg.block x (by have := lt_of_block hX; simp; omega) (fun e => by have := hr x e.symm; omega), Below.heap_alloc _ _ _ (show x < wx.drew.heap.size from lt_of_block hX)]
    exact hX

set_option maxRecDepth 100000 in
set_option maxHeartbeats 3200000 in
theorem made_any (s : ByteArray) (w : World) (hm : s.size ≤ maxLen) (ht : Tab w) :
    Calls Tryz.prog 14 #[.string s] w fun e w' => ∃ b, e = .returned (.pointer (some ⟨b, 0, none⟩)) ∧ Below w.heap.size w w' ∧ RunAt w.heap.size w' b (planK s) := by
  have HT := hide ht
  have HM := hide hm
  clear ht hm
  obtain ⟨i0, hi, hz0, hz1, hz2⟩ := info_parts Tryz.info_kitem
  cases hp : planOf s with
  | inr its =>
    have HK : Hid (planK s = its) := hide (by unfold planK; rw [hp])
    have HPL : Hid (plainR s = (planOut its, its.length, 0)) := hide (by rw [plainR_of, hp])
    have HP := hide hp
    clear hp
    go_enter Tryz.func14, Tryz.ntmps14
    go_wp2_with fail
    refine (plain_any s _ (unhide HM) (unhide HT)).mono ?_
    rintro e w1 ⟨rfl, hb1⟩
    rw [unhide HPL]
    have HB1 := hide hb1
    have HT1 := hide (tab_below hb1 (unhide HT))
    clear hb1
    simp only
    go_wp2_with fail
    refine (new_any s _ (unhide HM)).mono ?_
    rintro e w2 (⟨n, ce, hp2, _⟩ | ⟨its2, g, hp2, rfl, hb2, hg, hpl⟩)
    · rw [unhide HP] at hp2; cases hp2
    rw [unhide HP] at hp2
    simp only [Sum.inr.injEq] at hp2
    subst hp2
    have hok := planOf_ok (unhide HP)
    have hwf := planOf_wf (unhide HP)
    have hl12 := hok.len
    have hsz : (planOut its).length ≤ 14400000000 := by have := planOut_len its hwf; omega
    have hln : linesP ⟨(planOut its).toArray⟩ = its.map (fun it => ⟨(itemOut0 it).toArray⟩) := linesP_plan hok.can
    have HLN := hide hln
    have HOK := hide hok
    have HWF := hide hwf
    have HB2 := hide (below_after (unhide HB1) hb2)
    have HPL2 := hide hpl
    clear hok hwf hln hb2 hpl
    go_wp2_with fail
    refine (lines_any _ _ (by show (planOut its).toArray.size ≤ _; rw [List.size_toArray]; omega)).mono ?_
    rintro e w3 ⟨lv, rfl, hb3, hlo⟩
    rw [unhide HLN] at hlo
    simp only [List.length_map, List.map_map] at hlo
    obtain ⟨lo, lc, rfl⟩ := (SlAt.of_owns hlo).form
    have HB3 := hide (below_after (unhide HB2) hb3)
    have HPL3 := hide ((unhide HPL2).below hb3)
    have HLO := hide (owns_base hlo (base' := w.heap.size) (unhide HB2).size)
    clear hb3 hlo
    go_wp2_with fail
    obtain ⟨w4, hw4⟩ : ∃ w4, w4 = w3.alloc (.cells #[.pointer (some ⟨g, 0, none⟩), .slice none 0 0, .int .i64 0] 38) := ⟨_, rfl⟩
    have hba : Below w3.heap.size w3 w4 := by rw [hw4]; exact (Below.refl _ w3).alloc (Nat.le_refl _) _
    have hN4 : w4.heap[w3.heap.size]? = some (.cells #[.pointer (some ⟨g, 0, none⟩), .slice none 0 0, .int .i64 0] 38) := by rw [hw4]; exact alloc_last w3 _
    rw [← hw4]
    have HB4 := hide hba
    have HN4 := hide hN4
    have hs34 : w.heap.size ≤ w3.heap.size := (unhide HB3).size
    clear hw4 hba hN4
    go_loopg [10] its.length (fun gg iv wr => ∃ (j : Nat) (v : Value), j ≤ its.length ∧ gg = its.length - j ∧ iv = .int .i64 (j : Int) ∧ Below w3.heap.size w3 wr ∧ wr.heap[w3.heap.size]? = some (.cells #[.pointer (some ⟨g, 0, none⟩), v, .int .i64 (inputsTo its j : Int)] 38) ∧ wr.ownsRow w3.heap.size 45 3 v j (kis (its.take j)))
    case atStart => exact ⟨0, _, by omega, rfl, rfl, unhide HB4, unhide HN4, World.ownsRow_nil _ _ _ _⟩
    case round =>
      obtain ⟨j, v, hj, hg2, rfl, hb, hN, hown⟩ := hrel
      have A : Aside (gk = its.length - j ∧ Below w3.heap.size w3 wr ∧ wr.heap[w3.heap.size]? = some (.cells #[.pointer (some ⟨g, 0, none⟩), v, .int .i64 (inputsTo its j : Int)] 38) ∧ wr.ownsRow w3.heap.size 45 3 v j (kis (its.take j))) := ⟨hg2, hb, hN, hown⟩
      clear HB4 HN4
      have hile := inputsTo_le its j
      have hsN := lt_of_block hN
      clear hg2
      by_cases hlt : j < its.length
      · rcases SlAt.of_owns (unhide HLO) with ⟨h0, _⟩ | ⟨g2, cap2, hv2, hc2, hm2, hgl2, hx2⟩
        · omega
        simp only [Value.slice.injEq] at hv2
        obtain ⟨rfl, _, rfl⟩ := hv2
        have k0 : wr.cell? ⟨g2, j, none⟩ = some (.string ⟨(itemOut0 its[j]).toArray⟩) := by
          rw [hb.cell (p := ⟨g2, j, none⟩) hgl2, hx2 j (by omega)]
          simp [hlt]
        have hmem := List.getElem_mem (l := its) hlt
        have hik := (itemK_of ((unhide HOK).can _ hmem)).1
        have hil : (itemOut0 its[j]).length ≤ 1200000000 := by
          have := itemOut_len ((unhide HWF) _ hmem)
          unfold itemOut at this
          unfold itemOut0
          rw [List.length_append] at this
          omega
        have HKS := hide (kis_succ hlt)
        have HIS := hide (inputsTo_succ hlt)
        have hjc : (j : Int) < its.length := by omega
        generalize its[j] = it at *
        obtain ⟨vo, vc, hvf⟩ := (SlAt.of_owns hown).form
        subst hvf
        have HIK := hide hik
        clear hx2 hc2 hm2 hgl2 hN hown hik hmem hb
        go_wp2_with fail
        refine (kitem_any _ _ (by show (itemOut0 it).toArray.size ≤ _; rw [List.size_toArray]; omega)).mono ?_
        rintro e w5 ⟨rfl, hb5⟩
        rw [unhide HIK]
        simp only
        obtain ⟨bd, hbd⟩ : ∃ bd, decide (it.drops ≠ 0) = bd := ⟨_, rfl⟩
        have HBD : Hid (kcells (kOf it) = [.string it.name, .bool it.isT, .bool bd]) := hide (by unfold kOf kcells; rw [hbd])
        rw [hbd]
        clear hbd HIK
        have hN5 := (hb5.block _ hsN).trans A.out.2.2.1
        have HN5 := hide hN5
        have HO5 := hide (owns_below A.out.2.2.2 hb5)
        have HB5 := hide (below_after A.out.2.1 hb5)
        have hs5 := lt_of_block hN5
        clear hb5 hN5
        obtain ⟨wx, hwx⟩ : ∃ wx, wx = w5.alloc (.cells #[.string it.name, .bool it.isT, .bool bd] 45) := ⟨_, rfl⟩
        have hbx : Below w5.heap.size w5 wx := by rw [hwx]; exact (Below.refl _ w5).alloc (Nat.le_refl _) _
        have hNx : wx.heap[w5.heap.size]? = some (.cells #[.string it.name, .bool it.isT, .bool bd] 45) := by rw [hwx]; exact alloc_last w5 _
        have hNx3 := (hbx.block _ hs5).trans (unhide HN5)
        obtain ⟨⟨y0, y1, y2⟩, _⟩ := box3 hNx
        obtain ⟨⟨c0, c1, c2⟩, f0, f1, f2⟩ := box3 hNx3
        have hl1 := lt_of_block hNx
        have hl2 := lt_of_block hNx3
        have HNX := hide hNx
        have HNX3 := hide hNx3
        have HOX := hide (owns_drew (owns_below (unhide HO5) hbx))
        have HR : Hid (∀ r, (Value.slice vo j vc).ownBlock = some r → r < w5.heap.size) := hide (fun r hr => ((unhide HO5).lt r hr).2)
        have HBX := hide (below_after (unhide HB5) hbx)
        have hszx : w3.heap.size ≤ wx.heap.size := (unhide HBX).size
        go_wp2_with fail
        rw [← hwx]
        clear hwx hbx hNx hNx3
        go_region_law (first
          | (refine step_append_lies _ (by rfl) _ _ _ (by rfl) w3.heap.size 45 i0 _ 3 24 Tryz.underlying36 hi hz0 hz1 hz2 rfl (by decide) (.slice vo j vc) j (kis (its.take j)) (by rfl) ((unhide HOX).alloc _) ⟨wx.heap.size, 0, none⟩ 1 1 [.string it.name, .bool it.isT, .bool bd] (by rfl) (by rfl) (World.news_of_block (cs := #[.string it.name, .bool it.isT, .bool bd]) (t := 45) (fr := (0, 0)) (heap_alloc_new wx.drew _)) (by simp [Value.oneCell']) (by decide) (by unfold maxLen; omega) (by omega) (by simp; omega) (wx.heap.size + 1) (by simp) ?_; intro gg cap w7 hown7 hgrow7 hat7 hlt7; have AB := hide (run_push (w7 := w7) (unhide HBX) (unhide HNX3) (unhide HNX) (unhide HOX) (unhide HR) hgrow7 hown7); obtain ⟨⟨p0, p1, p2⟩, q0, q1, q2⟩ := box3 (unhide AB).2.1; obtain ⟨⟨z0, z1, z2⟩, _⟩ := box3 (unhide AB).2.2.1; have hl3 := lt_of_block (unhide AB).2.1; have hl4 := lt_of_block (unhide AB).2.2.1; clear hown7 hgrow7 hat7 hlt7)
          | go_simp)
        all_goals
          have hne : w5.heap.size ≠ w3.heap.size := by omega
          have HQ8 : Hid ((w7.setCell ⟨w3.heap.size, 1, none⟩ (.slice (some ⟨gg, 0, none⟩) (j + 1) cap)).heap[w3.heap.size]? = some (.cells #[.pointer (some ⟨g, 0, none⟩), .slice (some ⟨gg, 0, none⟩) (j + 1) cap, .int .i64 (inputsTo its j : Int)] 38)) := hide (by rw [heap_set_same (unhide AB).2.1]; rfl)
          have HX8 : Hid ((w7.setCell ⟨w3.heap.size, 1, none⟩ (.slice (some ⟨gg, 0, none⟩) (j + 1) cap)).heap[w5.heap.size]? = some (.cells #[.string it.name, .bool it.isT, .bool bd] 45)) := hide (by rw [Below.heap_setCell _ _ _ _ hne]; exact (unhide AB).2.2.1)
          have HB8 := hide ((unhide AB).1.setCell (p := ⟨w3.heap.size, 1, none⟩) (Nat.le_refl _) (.slice (some ⟨gg, 0, none⟩) (j + 1) cap))
          have HO8 := hide (owns_keep (w' := w7.setCell ⟨w3.heap.size, 1, none⟩ (.slice (some ⟨gg, 0, none⟩) (j + 1) cap)) (unhide AB).2.2.2 (fun gq c' _ hgq => set_keep (unhide AB).2.1 (by decide) gq c' hgq))
          obtain ⟨⟨e0, e1, e2⟩, r0, r1, r2⟩ := box3 (unhide HQ8)
          obtain ⟨⟨m0, m1, m2⟩, _⟩ := box3 (unhide HX8)
          have hq1 := lt_of_block (unhide HQ8)
          have hq2 := lt_of_block (unhide HX8)
          generalize w7.setCell ⟨w3.heap.size, 1, none⟩ (.slice (some ⟨gg, 0, none⟩) (j + 1) cap) = w8 at *
          cases hT : it.isT with
          | true =>
            rw [hT] at m1
            have HT3 := hide hT
            clear hT
            go_wp2_with fail
            go_roundg (its.length - (j + 1))
            case measure => have := A.out.1; omega
            case rel =>
              refine ⟨j + 1, .slice (some ⟨gg, 0, none⟩) (j + 1) cap, by omega, rfl, by go_num, unhide HB8, ?_, ?_⟩
              · rw [unhide HIS, unhide HT3]; exact unhide HQ8
              · rw [unhide HKS, unhide HBD]; exact unhide HO8
          | false =>
            rw [hT] at m1
            have HT3 := hide hT
            clear hT
            have HB9 := hide ((unhide HB8).setCell (p := ⟨w3.heap.size, 2, none⟩) (Nat.le_refl _) (.int .i64 ((inputsTo its j : Int) + 1)))
            have HQ9 : Hid ((w8.setCell ⟨w3.heap.size, 2, none⟩ (.int .i64 ((inputsTo its j : Int) + 1))).heap[w3.heap.size]? = some (.cells #[.pointer (some ⟨g, 0, none⟩), .slice (some ⟨gg, 0, none⟩) (j + 1) cap, .int .i64 ((inputsTo its j : Int) + 1)] 38)) := hide (by rw [heap_set_same (unhide HQ8)]; rfl)
            have HO9 := hide (owns_keep (w' := w8.setCell ⟨w3.heap.size, 2, none⟩ (.int .i64 ((inputsTo its j : Int) + 1))) (unhide HO8) (fun gq c' _ hgq => set_keep (unhide HQ8) (by decide) gq c' hgq))
            go_wp2_with fail
            go_roundg (its.length - (j + 1))
            case measure => have := A.out.1; omega
            case rel =>
              refine ⟨j + 1, .slice (some ⟨gg, 0, none⟩) (j + 1) cap, by omega, rfl, by go_num, unhide HB9, ?_, ?_⟩
              · rw [unhide HIS, unhide HT3]; exact unhide HQ9
              · rw [unhide HKS, unhide HBD]; exact unhide HO9
      · have hje : j = its.length := by omega
        have hjc : ¬ (j : Int) < its.length := by omega
        have HRUN : Hid (RunAt w.heap.size wr w3.heap.size (planK s)) := hide (by
          rw [unhide HK]
          refine ⟨g, v, ?_, (unhide HPL3).below hb, ?_⟩
          · rw [hN, hje]; rfl
          · have := owns_base hown hs34
            rw [hje, List.take_length] at this
            exact this)
        have HBF := hide (below_after (unhide HB3) hb)
        clear hje hb hN hown
        go_wp2
        go_ret
        exact ⟨_, rfl, unhide HBF, unhide HRUN⟩
  | inl ne =>
    obtain ⟨n0, e0⟩ := ne
    obtain ⟨T, hT⟩ : ∃ T : ByteArray, T = ⟨exText.toArray⟩ := ⟨_, rfl⟩
    obtain ⟨its, hits⟩ : ∃ its, its = exItems := ⟨_, rfl⟩
    have HK : Hid (planK s = its) := hide (by unfold planK; rw [hp, hits])
    have HP : Hid (planOf T = .inr its) := hide (by rw [hT, hits]; exact ex_items)
    have HPL : Hid (plainR T = (planOut its, its.length, 0)) := hide (by rw [plainR_of, unhide HP])
    have HPS : Hid (plainR s = ([], n0, e0)) := hide (by rw [plainR_of, hp])
    have hne0 := planOf_inl_ne hp
    have HMT : Hid (T.size ≤ maxLen) := hide (by rw [hT]; decide)
    have HTT := hide hT
    clear hp hT hits
    go_enter Tryz.func14, Tryz.ntmps14
    go_wp2_with fail
    refine (plain_any s _ (unhide HM) (unhide HT)).mono ?_
    rintro e wa ⟨rfl, hba⟩
    rw [unhide HPS]
    have HBa := hide hba
    have HTa := hide (tab_below hba (unhide HT))
    clear hba
    simp only
    go_wp2_with (go_at_call 36; refine (example_any _).mono ?_; rintro e w9 ⟨rfl, hw9⟩; rw [hw9, ← unhide HTT]; clear hw9 w9)
    refine (plain_any T _ (unhide HMT) (unhide HTa)).mono ?_
    rintro e w1 ⟨rfl, hb1⟩
    rw [unhide HPL]
    have HB1 := hide (below_after (unhide HBa) hb1)
    have HT1 := hide (tab_below hb1 (unhide HTa))
    clear hb1
    simp only
    go_wp2_with fail
    refine (new_any T _ (unhide HMT)).mono ?_
    rintro e w2 (⟨n, ce, hp2, _⟩ | ⟨its2, g, hp2, rfl, hb2, hg, hpl⟩)
    · rw [unhide HP] at hp2; cases hp2
    rw [unhide HP] at hp2
    simp only [Sum.inr.injEq] at hp2
    subst hp2
    have hok := planOf_ok (unhide HP)
    have hwf := planOf_wf (unhide HP)
    have hl12 := hok.len
    have hsz : (planOut its).length ≤ 14400000000 := by have := planOut_len its hwf; omega
    have hln : linesP ⟨(planOut its).toArray⟩ = its.map (fun it => ⟨(itemOut0 it).toArray⟩) := linesP_plan hok.can
    have HLN := hide hln
    have HOK := hide hok
    have HWF := hide hwf
    have HB2 := hide (below_after (unhide HB1) hb2)
    have HPL2 := hide hpl
    clear hok hwf hln hb2 hpl
    go_wp2_with fail
    refine (lines_any _ _ (by show (planOut its).toArray.size ≤ _; rw [List.size_toArray]; omega)).mono ?_
    rintro e w3 ⟨lv, rfl, hb3, hlo⟩
    rw [unhide HLN] at hlo
    simp only [List.length_map, List.map_map] at hlo
    obtain ⟨lo, lc, rfl⟩ := (SlAt.of_owns hlo).form
    have HB3 := hide (below_after (unhide HB2) hb3)
    have HPL3 := hide ((unhide HPL2).below hb3)
    have HLO := hide (owns_base hlo (base' := w.heap.size) (unhide HB2).size)
    clear hb3 hlo
    go_wp2_with fail
    obtain ⟨w4, hw4⟩ : ∃ w4, w4 = w3.alloc (.cells #[.pointer (some ⟨g, 0, none⟩), .slice none 0 0, .int .i64 0] 38) := ⟨_, rfl⟩
    have hba : Below w3.heap.size w3 w4 := by rw [hw4]; exact (Below.refl _ w3).alloc (Nat.le_refl _) _
    have hN4 : w4.heap[w3.heap.size]? = some (.cells #[.pointer (some ⟨g, 0, none⟩), .slice none 0 0, .int .i64 0] 38) := by rw [hw4]; exact alloc_last w3 _
    rw [← hw4]
    have HB4 := hide hba
    have HN4 := hide hN4
    have hs34 : w.heap.size ≤ w3.heap.size := (unhide HB3).size
    clear hw4 hba hN4
    go_loopg [10] its.length (fun gg iv wr => ∃ (j : Nat) (v : Value), j ≤ its.length ∧ gg = its.length - j ∧ iv = .int .i64 (j : Int) ∧ Below w3.heap.size w3 wr ∧ wr.heap[w3.heap.size]? = some (.cells #[.pointer (some ⟨g, 0, none⟩), v, .int .i64 (inputsTo its j : Int)] 38) ∧ wr.ownsRow w3.heap.size 45 3 v j (kis (its.take j)))
    case atStart => exact ⟨0, _, by omega, rfl, rfl, unhide HB4, unhide HN4, World.ownsRow_nil _ _ _ _⟩
    case round =>
      obtain ⟨j, v, hj, hg2, rfl, hb, hN, hown⟩ := hrel
      have A : Aside (gk = its.length - j ∧ Below w3.heap.size w3 wr ∧ wr.heap[w3.heap.size]? = some (.cells #[.pointer (some ⟨g, 0, none⟩), v, .int .i64 (inputsTo its j : Int)] 38) ∧ wr.ownsRow w3.heap.size 45 3 v j (kis (its.take j))) := ⟨hg2, hb, hN, hown⟩
      clear HB4 HN4
      have hile := inputsTo_le its j
      have hsN := lt_of_block hN
      clear hg2
      by_cases hlt : j < its.length
      · rcases SlAt.of_owns (unhide HLO) with ⟨h0, _⟩ | ⟨g2, cap2, hv2, hc2, hm2, hgl2, hx2⟩
        · omega
        simp only [Value.slice.injEq] at hv2
        obtain ⟨rfl, _, rfl⟩ := hv2
        have k0 : wr.cell? ⟨g2, j, none⟩ = some (.string ⟨(itemOut0 its[j]).toArray⟩) := by
          rw [hb.cell (p := ⟨g2, j, none⟩) hgl2, hx2 j (by omega)]
          simp [hlt]
        have hmem := List.getElem_mem (l := its) hlt
        have hik := (itemK_of ((unhide HOK).can _ hmem)).1
        have hil : (itemOut0 its[j]).length ≤ 1200000000 := by
          have := itemOut_len ((unhide HWF) _ hmem)
          unfold itemOut at this
          unfold itemOut0
          rw [List.length_append] at this
          omega
        have HKS := hide (kis_succ hlt)
        have HIS := hide (inputsTo_succ hlt)
        have hjc : (j : Int) < its.length := by omega
        generalize its[j] = it at *
        obtain ⟨vo, vc, hvf⟩ := (SlAt.of_owns hown).form
        subst hvf
        have HIK := hide hik
        clear hx2 hc2 hm2 hgl2 hN hown hik hmem hb
        go_wp2_with fail
        refine (kitem_any _ _ (by show (itemOut0 it).toArray.size ≤ _; rw [List.size_toArray]; omega)).mono ?_
        rintro e w5 ⟨rfl, hb5⟩
        rw [unhide HIK]
        simp only
        obtain ⟨bd, hbd⟩ : ∃ bd, decide (it.drops ≠ 0) = bd := ⟨_, rfl⟩
        have HBD : Hid (kcells (kOf it) = [.string it.name, .bool it.isT, .bool bd]) := hide (by unfold kOf kcells; rw [hbd])
        rw [hbd]
        clear hbd HIK
        have hN5 := (hb5.block _ hsN).trans A.out.2.2.1
        have HN5 := hide hN5
        have HO5 := hide (owns_below A.out.2.2.2 hb5)
        have HB5 := hide (below_after A.out.2.1 hb5)
        have hs5 := lt_of_block hN5
        clear hb5 hN5
        obtain ⟨wx, hwx⟩ : ∃ wx, wx = w5.alloc (.cells #[.string it.name, .bool it.isT, .bool bd] 45) := ⟨_, rfl⟩
        have hbx : Below w5.heap.size w5 wx := by rw [hwx]; exact (Below.refl _ w5).alloc (Nat.le_refl _) _
        have hNx : wx.heap[w5.heap.size]? = some (.cells #[.string it.name, .bool it.isT, .bool bd] 45) := by rw [hwx]; exact alloc_last w5 _
        have hNx3 := (hbx.block _ hs5).trans (unhide HN5)
        obtain ⟨⟨y0, y1, y2⟩, _⟩ := box3 hNx
        obtain ⟨⟨c0, c1, c2⟩, f0, f1, f2⟩ := box3 hNx3
        have hl1 := lt_of_block hNx
        have hl2 := lt_of_block hNx3
        have HNX := hide hNx
        have HNX3 := hide hNx3
        have HOX := hide (owns_drew (owns_below (unhide HO5) hbx))
        have HR : Hid (∀ r, (Value.slice vo j vc).ownBlock = some r → r < w5.heap.size) := hide (fun r hr => ((unhide HO5).lt r hr).2)
        have HBX := hide (below_after (unhide HB5) hbx)
        have hszx : w3.heap.size ≤ wx.heap.size := (unhide HBX).size
        go_wp2_with fail
        rw [← hwx]
        clear hwx hbx hNx hNx3
        go_region_law (first
          | (refine step_append_lies _ (by rfl) _ _ _ (by rfl) w3.heap.size 45 i0 _ 3 24 Tryz.underlying36 hi hz0 hz1 hz2 rfl (by decide) (.slice vo j vc) j (kis (its.take j)) (by rfl) ((unhide HOX).alloc _) ⟨wx.heap.size, 0, none⟩ 1 1 [.string it.name, .bool it.isT, .bool bd] (by rfl) (by rfl) (World.news_of_block (cs := #[.string it.name, .bool it.isT, .bool bd]) (t := 45) (fr := (0, 0)) (heap_alloc_new wx.drew _)) (by simp [Value.oneCell']) (by decide) (by unfold maxLen; omega) (by omega) (by simp; omega) (wx.heap.size + 1) (by simp) ?_; intro gg cap w7 hown7 hgrow7 hat7 hlt7; have AB := hide (run_push (w7 := w7) (unhide HBX) (unhide HNX3) (unhide HNX) (unhide HOX) (unhide HR) hgrow7 hown7); obtain ⟨⟨p0, p1, p2⟩, q0, q1, q2⟩ := box3 (unhide AB).2.1; obtain ⟨⟨z0, z1, z2⟩, _⟩ := box3 (unhide AB).2.2.1; have hl3 := lt_of_block (unhide AB).2.1; have hl4 := lt_of_block (unhide AB).2.2.1; clear hown7 hgrow7 hat7 hlt7)
          | go_simp)
        all_goals
          have hne : w5.heap.size ≠ w3.heap.size := by omega
          have HQ8 : Hid ((w7.setCell ⟨w3.heap.size, 1, none⟩ (.slice (some ⟨gg, 0, none⟩) (j + 1) cap)).heap[w3.heap.size]? = some (.cells #[.pointer (some ⟨g, 0, none⟩), .slice (some ⟨gg, 0, none⟩) (j + 1) cap, .int .i64 (inputsTo its j : Int)] 38)) := hide (by rw [heap_set_same (unhide AB).2.1]; rfl)
          have HX8 : Hid ((w7.setCell ⟨w3.heap.size, 1, none⟩ (.slice (some ⟨gg, 0, none⟩) (j + 1) cap)).heap[w5.heap.size]? = some (.cells #[.string it.name, .bool it.isT, .bool bd] 45)) := hide (by rw [Below.heap_setCell _ _ _ _ hne]; exact (unhide AB).2.2.1)
          have HB8 := hide ((unhide AB).1.setCell (p := ⟨w3.heap.size, 1, none⟩) (Nat.le_refl _) (.slice (some ⟨gg, 0, none⟩) (j + 1) cap))
          have HO8 := hide (owns_keep (w' := w7.setCell ⟨w3.heap.size, 1, none⟩ (.slice (some ⟨gg, 0, none⟩) (j + 1) cap)) (unhide AB).2.2.2 (fun gq c' _ hgq => set_keep (unhide AB).2.1 (by decide) gq c' hgq))
          obtain ⟨⟨e0, e1, e2⟩, r0, r1, r2⟩ := box3 (unhide HQ8)
          obtain ⟨⟨m0, m1, m2⟩, _⟩ := box3 (unhide HX8)
          have hq1 := lt_of_block (unhide HQ8)
          have hq2 := lt_of_block (unhide HX8)
          generalize w7.setCell ⟨w3.heap.size, 1, none⟩ (.slice (some ⟨gg, 0, none⟩) (j + 1) cap) = w8 at *
          cases hT : it.isT with
          | true =>
            rw [hT] at m1
            have HT3 := hide hT
            clear hT
            go_wp2_with fail
            go_roundg (its.length - (j + 1))
            case measure => have := A.out.1; omega
            case rel =>
              refine ⟨j + 1, .slice (some ⟨gg, 0, none⟩) (j + 1) cap, by omega, rfl, by go_num, unhide HB8, ?_, ?_⟩
              · rw [unhide HIS, unhide HT3]; exact unhide HQ8
              · rw [unhide HKS, unhide HBD]; exact unhide HO8
          | false =>
            rw [hT] at m1
            have HT3 := hide hT
            clear hT
            have HB9 := hide ((unhide HB8).setCell (p := ⟨w3.heap.size, 2, none⟩) (Nat.le_refl _) (.int .i64 ((inputsTo its j : Int) + 1)))
            have HQ9 : Hid ((w8.setCell ⟨w3.heap.size, 2, none⟩ (.int .i64 ((inputsTo its j : Int) + 1))).heap[w3.heap.size]? = some (.cells #[.pointer (some ⟨g, 0, none⟩), .slice (some ⟨gg, 0, none⟩) (j + 1) cap, .int .i64 ((inputsTo its j : Int) + 1)] 38)) := hide (by rw [heap_set_same (unhide HQ8)]; rfl)
            have HO9 := hide (owns_keep (w' := w8.setCell ⟨w3.heap.size, 2, none⟩ (.int .i64 ((inputsTo its j : Int) + 1))) (unhide HO8) (fun gq c' _ hgq => set_keep (unhide HQ8) (by decide) gq c' hgq))
            go_wp2_with fail
            go_roundg (its.length - (j + 1))
            case measure => have := A.out.1; omega
            case rel =>
              refine ⟨j + 1, .slice (some ⟨gg, 0, none⟩) (j + 1) cap, by omega, rfl, by go_num, unhide HB9, ?_, ?_⟩
              · rw [unhide HIS, unhide HT3]; exact unhide HQ9
              · rw [unhide HKS, unhide HBD]; exact unhide HO9
      · have hje : j = its.length := by omega
        have hjc : ¬ (j : Int) < its.length := by omega
        have HRUN : Hid (RunAt w.heap.size wr w3.heap.size (planK s)) := hide (by
          rw [unhide HK]
          refine ⟨g, v, ?_, (unhide HPL3).below hb, ?_⟩
          · rw [hN, hje]; rfl
          · have := owns_base hown hs34
            rw [hje, List.take_length] at this
            exact this)
        have HBF := hide (below_after (unhide HB3) hb)
        clear hje hb hN hown
        go_wp2
        go_ret
        exact ⟨_, rfl, unhide HBF, unhide HRUN⟩
end Go.Proofs.YthnggjaecngbiaaGreatDoor
