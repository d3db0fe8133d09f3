import Derived.Deep.RegionHeld3
import Derived.Test.YthnggjaecngbiaaGreatDoorToA
namespace Go.Proofs.YthnggjaecngbiaaGreatDoor
open Go.RowKit

theorem lines0_len (its : List PItem) (ls : List Nat) (rs : List (PVal × List Nat)) (clear j : Nat) : (lines0 its ls rs clear j).length = j := by simp [lines0]
theorem lines0_at {its : List PItem} {ls : List Nat} {rs : List (PVal × List Nat)} {clear n j : Nat} (h : j < n) (hj : j < its.length) : (lines0 its ls rs clear n)[j]? = some (line0 its[j] (ls.getD j 0) clear (rs.getD j (PVal.zero, []))) := by
  unfold lines0
  rw [List.getElem?_map, List.getElem?_range h, Option.map_some, getD_at its noItem hj]
theorem explain_len {its : List PItem} (ok : OkPlan its) {vals : List Int} (hv : ∀ x ∈ vals, -1000000 ≤ x ∧ x ≤ 1000000) (clear : Nat) : (explainP its clear vals).length ≤ 12000 := by
  have h1 := toldTo_len ok hv clear its.length (Nat.le_refl _)
  have := ok.len
  unfold explainP
  omega

set_option maxRecDepth 100000 in
set_option maxHeartbeats 6400000 in
theorem told_any (s : ByteArray) (clear more : Int) (rv : Value) (raw : List Int) (w : World) (hm : s.size ≤ maxLen) (hraw : RawV w rv raw) (hrb : ∀ x ∈ raw, -9223372036854775808 ≤ x ∧ x ≤ 9223372036854775807) (hc1 : -9223372036854775808 ≤ clear) (hc2 : clear ≤ 9223372036854775807) (hm1 : -9223372036854775808 ≤ more) (hm2 : more ≤ 9223372036854775807) (ht : Tab w) :
    Calls Tryz.prog 7 #[.string s, .int .i64 clear, .int .i64 more, rv] w fun e w' => e = .returned (.bool true) ∧ Below w.heap.size w w' := by
  obtain ⟨ro, rc, rfl⟩ := hraw.form
  have HT := hide ht
  have HM := hide hm
  have HR := hide hraw
  have HRB := hide hrb
  have hok := planK_ok s
  have hin := inputsP_le hok
  have hl12 := hok.len
  obtain ⟨its, hits⟩ : ∃ its, planK s = its := ⟨_, rfl⟩
  rw [hits] at hok hin hl12
  have HOK := hide hok
  have HITS := hide hits
  clear ht hm hraw hrb hok hits
  go_enter Tryz.func7, Tryz.ntmps7
  go_wp2_with fail
  refine (begun_any _ (unhide HT)).mono ?_
  rintro e w1 ⟨rfl, hb1⟩
  have HB1 := hide hb1
  have HT1 := hide (tab_below hb1 (unhide HT))
  clear hb1
  go_wp2_with fail
  refine (made_any s _ (unhide HM) (unhide HT1)).mono ?_
  rintro e w2 ⟨b, rfl, hb2, hrun⟩
  rw [unhide HITS] at hrun
  have HB2 := hide (below_after (unhide HB1) hb2)
  have HT2 := hide (tab_below hb2 (unhide HT1))
  have HR2 := hide hrun
  clear hb2 hrun
  go_wp2_with fail
  refine (pick_any clear 8 _ (by omega) (by omega) hc1 hc2).mono ?_
  rintro e w9 ⟨rfl, hw9⟩
  rw [hw9]
  clear hw9 w9
  have hpk : pickP clear 8 < 8 := Nat.mod_lt _ (by omega)
  generalize pickP clear 8 = c at *
  have hc7 : c ≤ 7 := by omega
  go_wp2_with fail
  refine (pick_any more 8 _ (by omega) (by omega) hm1 hm2).mono ?_
  rintro e w9 ⟨rfl, hw9⟩
  rw [hw9]
  clear hw9 w9
  have hpm : pickP more 8 < 8 := Nat.mod_lt _ (by omega)
  generalize pickP more 8 = m at *
  have hm7 : m ≤ 7 := by omega
  have hor := bits_or7 hc7 hm7
  obtain ⟨d, hd⟩ : ∃ d, d = c ||| m := ⟨_, rfl⟩
  have hd7 : d ≤ 7 := by rw [hd]; have := Nat.or_lt_two_pow (x := c) (y := m) (n := 3) (by omega) (by omega); omega
  rw [← hd] at hor
  have HD := hide hd
  clear hd
  go_wp2_with fail
  refine (values_any _ b its _ raw _ (unhide HR2) ((unhide HR).below (unhide HB2)) (unhide HRB) hin).mono ?_
  rintro e w3 ⟨vv3, rfl, hb3, hvo⟩
  obtain ⟨vo, vc, rfl⟩ := (SlAt.of_owns hvo).form
  have HB3 := hide (below_after (unhide HB2) hb3)
  have HT3 := hide (tab_below hb3 (unhide HT2))
  have HR3 := hide ((unhide HR2).below hb3)
  have HV3 := hide (SlAt.of_owns hvo)
  clear hb3 hvo
  have HVL := hide (valsK_len raw (inputsP its))
  have HVF := hide (valsK_fits its raw)
  generalize valsK raw (inputsP its) = V at *
  obtain ⟨n, hn⟩ : ∃ n, n = inputsP its := ⟨_, rfl⟩
  have HN := hide hn
  rw [← hn] at hin HVL
  clear hn
  rw [unhide HVL] at HV3 ⊢
  have hVb := (fits_bd (unhide HVF)).2
  have hl1 := explain_len (unhide HOK) hVb c
  have hl2 := explain_len (unhide HOK) hVb d
  have HVB := hide hVb
  clear hVb
  have HE1 : Hid (explR its (c : Int) V = (explainP its c V, 0)) := hide (by unfold explR; rw [if_pos ⟨⟨by omega, by omega⟩, unhide HVF⟩, Int.toNat_natCast])
  have HE2 : Hid (explR its (d : Int) V = (explainP its d V, 0)) := hide (by unfold explR; rw [if_pos ⟨⟨by omega, by omega⟩, unhide HVF⟩, Int.toNat_natCast])
  obtain ⟨g3, a3, ic3, ⟨c0, c1, c2⟩, hbl, hpl, _⟩ := (unhide HR3).all
  have HPL3 := hide hpl
  clear hpl
  go_wp2_with fail
  refine (explain_any g3 its _ _ V _ (unhide HPL3) (by rw [unhide HVL]; exact unhide HV3) (unhide HT3)).mono ?_
  rintro e w4 ⟨rfl, hb4⟩
  rw [unhide HE1]
  have HB4 := hide (below_after (unhide HB3) hb4)
  have HT4 := hide (tab_below hb4 (unhide HT3))
  have HR4 := hide ((unhide HR3).below hb4)
  have HV4 := hide ((unhide HV3).below hb4)
  clear hb4 c0 c1 c2 hbl
  obtain ⟨g4, a4, ic4, ⟨c0, c1, c2⟩, hbl, hpl, _⟩ := (unhide HR4).all
  have HPL4 := hide hpl
  clear hpl
  simp only
  go_wp2_with fail
  refine (explain_any g4 its _ _ V _ (unhide HPL4) (by rw [unhide HVL]; exact unhide HV4) (unhide HT4)).mono ?_
  rintro e w5 ⟨rfl, hb5⟩
  rw [unhide HE2]
  have HB5 := hide (below_after (unhide HB4) hb5)
  have HR5 := hide ((unhide HR4).below hb5)
  have HV5 := hide ((unhide HV4).below hb5)
  clear hb5 c0 c1 c2 hbl
  obtain ⟨g5, a5, ic5, ⟨c0, c1, c2⟩, hbl, hpl, _⟩ := (unhide HR5).all
  have HPL5 := hide hpl
  clear hpl
  simp only
  go_wp2_with fail
  refine (eval_any g5 its _ V _ (unhide HPL5) (by rw [unhide HVL]; exact unhide HV5)).mono ?_
  rintro e w6 (⟨hf, _⟩ | ⟨hf, lo, lc, rfl, hb6, hlo⟩)
  · rw [unhide HVF] at hf; cases hf
  have HB6 := hide (below_after (unhide HB5) hb6)
  have HR6 := hide ((unhide HR5).below hb6)
  have HV6 := hide ((unhide HV5).below hb6)
  have HL6 := hide (SlAt.of_owns hlo)
  clear hf hb6 hlo c0 c1 c2 hbl
  go_wp2_with fail
  refine (lines_any _ _ (by show (explainP its c V).toArray.size ≤ _; rw [List.size_toArray]; omega)).mono ?_
  rintro e w7 ⟨av, rfl, hb7, hao⟩
  rw [told_linesP (unhide HOK)] at hao
  simp only [List.length_map, List.map_map, lines0_len] at hao
  obtain ⟨ao, ac, rfl⟩ := (SlAt.of_owns hao).form
  have HB7 := hide (below_after (unhide HB6) hb7)
  have HR7 := hide ((unhide HR6).below hb7)
  have HV7 := hide ((unhide HV6).below hb7)
  have HL7 := hide ((unhide HL6).below hb7)
  have HA7 := hide (SlAt.of_owns hao)
  clear hb7 hao
  go_wp2_with fail
  refine (lines_any _ _ (by show (explainP its d V).toArray.size ≤ _; rw [List.size_toArray]; omega)).mono ?_
  rintro e w8 ⟨bv, rfl, hb8, hbo⟩
  rw [told_linesP (unhide HOK)] at hbo
  simp only [List.length_map, List.map_map, lines0_len] at hbo
  obtain ⟨bo, bc, rfl⟩ := (SlAt.of_owns hbo).form
  have HB8 := hide (below_after (unhide HB7) hb8)
  have HR8 := hide ((unhide HR7).below hb8)
  have HV8 := hide ((unhide HV7).below hb8)
  have HL8 := hide ((unhide HL7).below hb8)
  have HA8 := hide ((unhide HA7).below hb8)
  have HBB := hide (SlAt.of_owns hbo)
  clear hb8 hbo
  obtain ⟨g8, a8, ic8, ⟨c0, c1, c2⟩, hbl, hpl, _⟩ := (unhide HR8).all
  clear hpl
  have hLV := tabsTo_count (its := its) (rs := resP its V) its.length (Nat.le_refl _)
  obtain ⟨L, hL⟩ : ∃ L, L = its.length - n := ⟨_, rfl⟩
  have hnl : n ≤ its.length := by have := unhide HN; unfold inputsP at this; omega
  have hL1 : (tabsP its V).length = L := by unfold tabsP; have := unhide HN; unfold inputsP at this; omega
  rw [hL1] at HL8 ⊢
  have hLi : (L : Int) = (its.length : Int) - (n : Int) := by omega
  have HL1 := hide hL1
  rw [← unhide HN] at c2
  have hne : ((L : Int) != (its.length : Int) - (n : Int)) = false := by rw [hLi]; simp
  clear hLV hL hLi hL1
  go_wp2_with fail
  clear c0 c1 c2 hbl
  go_loopg [22, 23, 24] its.length (fun g av kv iv wr => ∃ j : Nat, j ≤ its.length ∧ g = its.length - j ∧ iv = .int .i64 (j : Int) ∧ av = .int .i64 (inputsTo its j : Int) ∧ kv = .int .i64 ((tabsTo its (resP its V) j).length : Int) ∧ Below w8.heap.size w8 wr)
  case atStart => exact ⟨0, by omega, rfl, rfl, by simp [inputsTo], by simp [tabsTo], by first | exact Below.refl _ _ | exact below_drewN (Below.refl _ _) _⟩
  case round =>
    obtain ⟨j, hj, hg, rfl, rfl, rfl, hb⟩ := hrel
    have A : Aside (gk = its.length - j ∧ Below w8.heap.size w8 wr) := ⟨hg, hb⟩
    obtain ⟨g9, a9, ic9, ⟨c0, c1, c2⟩, hbl, hpl, hits⟩ := ((unhide HR8).below hb).all
    have HPL9 := hide hpl
    have htc := tabsTo_count (its := its) (rs := resP its V) j hj
    have hile := inputsTo_le its j
    clear hg hpl
    by_cases hlt : j < its.length
    · obtain ⟨iv, rfl, hic, him, hivl, k0, k1, k2⟩ := hits j hlt
      have hjc : (j : Int) < its.length := by omega
      have hlab := labelP_at (unhide HOK) hlt
      have h7 := labs_le7 (unhide HOK) j
      have hnl8 := (unhide HOK).nameLen _ (List.getElem_mem hlt)
      have hrl : j < (resP its V).length := by unfold resP; rw [resTo_len]; exact hlt
      have hbd := res_bd (unhide HOK) (unhide HVB) _ (Nat.le_refl _) (resP its V)[j] (List.getElem_mem hrl)
      have hll := lineOut_len (it := its[j]) (lb := (labsP its).getD j 0) (clear := c) hnl8 hbd.1 hbd.2.1 hbd.2.2
      rw [← getD_at (resP its V) (PVal.zero, []) hrl] at hbd hll
      have hres := resP_at (vals := V) hlt
      have hA : (⟨(line0 its[j] ((labsP its).getD j 0) c ((resP its V).getD j (PVal.zero, []))).toArray⟩ : ByteArray).size ≤ 1000 := by
        show (line0 _ _ _ _).toArray.size ≤ _
        rw [List.size_toArray]
        have : lineOut its[j] ((labsP its).getD j 0) c ((resP its V).getD j (PVal.zero, [])) = line0 its[j] ((labsP its).getD j 0) c ((resP its V).getD j (PVal.zero, [])) ++ [10] := rfl
        rw [this, List.length_append] at hll
        omega
      -- the two lines
      rcases (unhide HA8).below hb with ⟨h0, _⟩ | ⟨ga, acap, hav, _, _, hagl, hax⟩
      · omega
      rcases (unhide HBB).below hb with ⟨h0, _⟩ | ⟨gb, bcap, hbv, _, _, hbgl, hbx⟩
      · omega
      simp only [Value.slice.injEq] at hav hbv
      obtain ⟨rfl, _, rfl⟩ := hav
      obtain ⟨rfl, _, rfl⟩ := hbv
      have ka : wr.cell? ⟨ga, j, none⟩ = some (.string ⟨(line0 its[j] ((labsP its).getD j 0) c ((resP its V).getD j (PVal.zero, []))).toArray⟩) := by
        rw [hax j (by omega), List.getElem?_map, lines0_at (by omega) hlt]; rfl
      have kb : wr.cell? ⟨gb, j, none⟩ = some (.string ⟨(line0 its[j] ((labsP its).getD j 0) d ((resP its V).getD j (PVal.zero, []))).toArray⟩) := by
        rw [hbx j (by omega), List.getElem?_map, lines0_at (by omega) hlt]; rfl
      have HLN : Hid (∀ l, seenB ((labsP its).getD j 0) c = true → line0 its[j] ((labsP its).getD j 0) c l = line0 its[j] ((labsP its).getD j 0) d l) := hide (fun l hs => by
        unfold line0
        rw [hs, if_pos rfl, unhide HD, seenB_mono h7 hc7 hm7 hs, if_pos rfl])
      have HTS : Hid ((tabsTo its (resP its V) (j + 1)).length = (tabsTo its (resP its V) j).length + (if its[j].isT then 1 else 0)) := hide (by
        rw [tabsTo, getD_at its noItem hlt, List.length_append]
        congr 1
        cases its[j].isT <;> rfl)
      have HTA := hide (fun hT => tabsTo_at (its := its) (rs := resP its V) hlt hT)
      have HIS := hide (inputsTo_succ hlt)
      have hmono := inputsTo_mono its (i := j + 1) (j := its.length) (by omega)
      have HATN : Hid (its[j].isT = false → inputsTo its j < n) := hide (fun hT => by
        have h1 := unhide HIS
        rw [hT, if_neg (by simp)] at h1
        have := unhide HN
        unfold inputsP at this
        omega)
      have HRES := hide hres
      have HLAB := hide hlab
      obtain ⟨it, hit⟩ : ∃ it, it = its[j] := ⟨_, rfl⟩
      have HIT := hide hit
      rw [← hit] at k0 k1 k2 ka kb HLN HTS HIS HATN HRES HLAB hA hnl8
      have HTA2 : Hid (it.isT = true → (tabsTo its (resP its V) its.length)[(tabsTo its (resP its V) j).length]? = some ((resP its V).getD j (PVal.zero, [])).1) := hide (fun hT => unhide HTA (by rw [← hit]; exact hT))
      clear hit HTA
      generalize (labsP its).getD j 0 = lb at *
      generalize (resP its V).getD j (PVal.zero, []) = r at *
      obtain ⟨⟨rk, rn⟩, rm⟩ := r
      simp only at hbd
      obtain ⟨bd, hbdq⟩ : ∃ bd, decide (it.drops ≠ 0) = bd := ⟨_, rfl⟩
      rw [hbdq] at k2
      obtain ⟨wx, hwx⟩ : ∃ wx, wx = wr.alloc (.cells #[.string it.name, .bool it.isT, .bool bd] 45) := ⟨_, rfl⟩
      have hb1 : Below wr.heap.size wr wx := by rw [hwx]; exact (Below.refl _ wr).alloc (Nat.le_refl _) _
      have hNx : wx.heap[wr.heap.size]? = some (.cells #[.string it.name, .bool it.isT, .bool bd] 45) := by rw [hwx]; exact alloc_last wr _
      have HNX := hide hNx
      have HB1x := hide (below_after hb hb1)
      have HCALL := hide (label_any g9 its it.name wx.drew (planAt_drew ((unhide HPL9).below hb1)))
      have HKA : Hid (∀ w', Below wr.heap.size wr w' → w'.cell? ⟨ga, j, none⟩ = some (.string ⟨(line0 it lb c (⟨rk, rn⟩, rm)).toArray⟩) ∧ w'.cell? ⟨gb, j, none⟩ = some (.string ⟨(line0 it lb d (⟨rk, rn⟩, rm)).toArray⟩)) := hide (fun w' hb' => ⟨by rw [hb'.cell (p := ⟨ga, j, none⟩) hagl]; exact ka, by rw [hb'.cell (p := ⟨gb, j, none⟩) hbgl]; exact kb⟩)
      have HBX := hide hb1
      obtain ⟨⟨x0, x1, x2⟩, _⟩ := box3 hNx
      have hsx := lt_of_block hNx
      have hbl' : b < wx.heap.size := Nat.lt_of_lt_of_le hbl hb1.size
      have d0 := (hb1.cell (p := ⟨b, 0, none⟩) hbl).trans c0
      clear hits him hax hbx hlab hll hres hmono hrl ka kb hNx hb1 hbdq
      go_wp2_with fail
      rw [← hwx]
      clear hwx k0 k1 k2 c0 c1 c2
      go_region_held3 (fun w' => w'.cell? ⟨b, 0, none⟩ = some (.pointer (some ⟨g9, 0, none⟩)) ∧ w'.cell? ⟨wr.heap.size, 0, none⟩ = some (.string it.name)) (go_keep) (first | (go_at_call 18; refine (unhide HCALL).mono ?_; rintro e w5 ⟨rfl, hb5⟩; rw [unhide HLAB]; have HB5 := hide (below_of_drew hb5); have z0 := ((below_of_drew hb5).cell (p := ⟨b, 0, none⟩) hbl').trans d0; have z1 := ((below_of_drew hb5).cell (p := ⟨wr.heap.size, 0, none⟩) hsx).trans x0; clear hb5))
      · clear z0 z1
        have hN5 := ((unhide HB5).block _ (lt_of_block (unhide HNX))).trans (unhide HNX)
        have HN5 := hide hN5
        have HBw := hide (below_after (unhide HBX) (unhide HB5))
        clear x0 x1 x2 d0
        obtain ⟨⟨x0, x1, x2⟩, _⟩ := box3 hN5
        have hs5 := lt_of_block hN5
        clear hN5
        cases hT : it.isT with
        | true =>
          rw [hT] at x1
          have HTT := hide hT
          clear hT
          have htlt := unhide HTA2 (unhide HTT)
          obtain ⟨tc, htce⟩ : ∃ tc, tc = (tabsTo its (resP its V) j).length := ⟨_, rfl⟩
          rw [← htce] at htlt HTS ⊢
          have htl1 : tc < (tabsP its V).length := (List.getElem?_eq_some_iff.1 htlt).1
          have hgV : (tabsP its V)[tc] = ⟨rk, rn⟩ := (List.getElem?_eq_some_iff.1 htlt).2
          have htL : (tc : Int) < L := by rw [← unhide HL1]; omega
          have htc12 : (tc : Int) ≤ 12 := by omega
          rcases (unhide HL8).below (below_after (unhide HB1x) (unhide HB5)) with ⟨h0, _⟩ | ⟨gl, lcap, hlv, _, _, hlgl, hlx⟩
          · omega
          simp only [Value.slice.injEq] at hlv
          obtain ⟨rfl, _, rfl⟩ := hlv
          have l0 : w5.cell? ⟨gl, tc * 2, none⟩ = some (.int .i64 rk) := by
            rw [hlx _ (by rw [← unhide HL1]; omega)]
            have := flat_at vcells 2 (fun _ => rfl) (tabsP its V) tc 0 htl1 (by omega)
            rw [Nat.add_zero] at this
            rw [this, hgV]; rfl
          have l1 : w5.cell? ⟨gl, tc * 2 + 1, none⟩ = some (.int .i64 rn) := by
            rw [hlx _ (by rw [← unhide HL1]; omega)]
            have := flat_at vcells 2 (fun _ => rfl) (tabsP its V) tc 1 htl1 (by omega)
            rw [this, hgV]; rfl
          obtain ⟨wv, hwv⟩ : ∃ wv, wv = w5.alloc (.cells #[.int .i64 rk, .int .i64 rn] 51) := ⟨_, rfl⟩
          have hbv : Below w5.heap.size w5 wv := by rw [hwv]; exact (Below.refl _ w5).alloc (Nat.le_refl _) _
          have hNV : wv.heap[w5.heap.size]? = some (.cells #[.int .i64 rk, .int .i64 rn] 51) := by rw [hwv]; exact alloc_last w5 _
          have hNXv := (hbv.block _ (lt_of_block (unhide HN5))).trans (unhide HN5)
          have HNV := hide hNV
          have HNXv := hide hNXv
          have HBV := hide (below_after (unhide HBw) hbv)
          clear hbv hNV hNXv hlx htlt htl1 hgV htce
          go_wp2_with fail
          rw [← hwv]
          clear hwv
          clear x0 x1 x2
          obtain ⟨⟨x0, x1, x2⟩, _⟩ := box3 (unhide HNXv)
          obtain ⟨⟨v0, v1⟩, _⟩ := box2 (unhide HNV)
          have hsv := lt_of_block (unhide HNXv)
          have hsv2 := lt_of_block (unhide HNV)
          obtain ⟨S1, hS1⟩ : ∃ S1 : ByteArray, (⟨(shownOut ⟨rk, rn⟩).toArray⟩ : ByteArray) = S1 := ⟨_, rfl⟩
          have hS1l : S1.size ≤ 8 := by rw [← hS1]; show (shownOut ⟨rk, rn⟩).toArray.size ≤ _; rw [List.size_toArray]; exact shownOut_len (by simp only; omega) (by simp only; omega)
          have HSH := hide (kshown_any ⟨rk, rn⟩ wv.drew (by simp only; omega) (by simp only; omega))
          rw [hS1] at HSH
          have HS1 : Hid (it.name ++ (⟨#[32]⟩ : ByteArray) ++ S1 = ⟨(it.name.data.toList ++ [32] ++ shownOut ⟨rk, rn⟩).toArray⟩) := hide (by
            apply ByteArray.ext
            rw [← hS1]
            apply Array.toList_inj.1
            simp)
          clear hS1
          have q0 : ¬ 9223372036854775807 < it.name.size + 1 := by omega
          have q1 : ¬ 9223372036854775807 ≤ it.name.size := by omega
          have q2 : ¬ 9223372036854775806 < it.name.size := by omega
          have q3 : ¬ 9223372036854775807 < it.name.size + 1 + S1.size := by omega
          go_region_held3 (fun w' => w'.cell? ⟨wr.heap.size, 0, none⟩ = some (.string it.name) ∧ w'.cell? ⟨w5.heap.size, 0, none⟩ = some (.int .i64 rk) ∧ w'.cell? ⟨w5.heap.size, 1, none⟩ = some (.int .i64 rn)) (go_keep) (first | (go_at_call 22; refine (unhide HSH).mono ?_; rintro e w6 ⟨rfl, hb6⟩; have HB6 := hide (below_after (unhide HBV) (below_of_drew hb6)); have hN6 := ((below_of_drew hb6).block _ (lt_of_block (unhide HNXv))).trans (unhide HNXv); have HN6 := hide hN6; obtain ⟨⟨y0, y1, y2⟩, _⟩ := box3 hN6; have hs6 := lt_of_block hN6; have hV6 := ((below_of_drew hb6).block _ (lt_of_block (unhide HNV))).trans (unhide HNV); obtain ⟨⟨q8, q9⟩, _⟩ := box2 hV6; clear hb6 hN6 hV6))
          · clear q0 q1 q2 q3 q8 q9
            clear y0 y1 y2
            obtain ⟨⟨y0, y1, y2⟩, _⟩ := box3 (unhide HN6)
            obtain ⟨ea, eb⟩ := unhide HKA _ (unhide HB6)
            go_wp2_with fail
            cases hsn : seenB lb c with
            | true =>
              have HBG : Hid (beginsP ⟨(line0 it lb c (⟨rk, rn⟩, rm)).toArray⟩ (it.name ++ (⟨#[32]⟩ : ByteArray) ++ S1) = true) := hide (by rw [unhide HS1]; exact begins_line hsn)
              have HLE := hide (unhide HLN (⟨rk, rn⟩, rm) hsn)
              have HSN := hide hsn
              clear hsn
              refine (begins_any _ _ _ (by omega) (by rw [ByteArray.size_append, ByteArray.size_append]; show it.name.size + 1 + S1.size ≤ _; omega)).mono ?_
              rintro e wq ⟨rfl, hbq⟩
              rw [unhide HBG]
              have HBQ := hide (below_after (unhide HB6) hbq)
              have hNq := (hbq.block _ (lt_of_block (unhide HN6))).trans (unhide HN6)
              clear y0 y1 y2 ea eb
              obtain ⟨⟨y0, y1, y2⟩, _⟩ := box3 hNq
              have hsq := lt_of_block hNq
              obtain ⟨ea, eb⟩ := unhide HKA _ (unhide HBQ)
              rw [← unhide HLE] at eb
              clear hbq hNq
              go_wp2_with fail
              refine (seen_any lb c _ h7 hc7).mono ?_
              rintro e wz ⟨rfl, hwz⟩
              rw [hwz, unhide HSN]
              clear hwz wz
              go_wp2_with fail
              go_quiet (fail)
              go_wp2_with fail
              go_roundg (its.length - (j + 1))
              case measure => have := A.out.1; omega
              case rel => exact ⟨j + 1, by omega, rfl, by go_num, by rw [unhide HIS, unhide HTT]; simp, by rw [unhide HTS, unhide HTT]; simp, by first | exact below_drewN (below_after A.out.2 (unhide HBQ)) _ | exact below_after A.out.2 (unhide HBQ)⟩
            | false =>
              have HL0 : Hid ((⟨(line0 it lb c (⟨rk, rn⟩, rm)).toArray⟩ : ByteArray) = it.name ++ (⟨#[32, 63]⟩ : ByteArray)) := hide (by
                apply ByteArray.ext
                apply Array.toList_inj.1
                unfold line0
                rw [hsn]
                simp)
              have HSN := hide hsn
              clear hsn
              refine (begins_any _ _ _ (by omega) (by rw [ByteArray.size_append, ByteArray.size_append]; show it.name.size + 1 + S1.size ≤ _; omega)).mono ?_
              rintro e wq ⟨rfl, hbq⟩
              generalize beginsP ⟨(line0 it lb c (⟨rk, rn⟩, rm)).toArray⟩ (it.name ++ (⟨#[32]⟩ : ByteArray) ++ S1) = bg at *
              have HBQ := hide (below_after (unhide HB6) hbq)
              have hNq := (hbq.block _ (lt_of_block (unhide HN6))).trans (unhide HN6)
              clear y0 y1 y2 ea eb
              obtain ⟨⟨y0, y1, y2⟩, _⟩ := box3 hNq
              have hsq := lt_of_block hNq
              obtain ⟨ea, eb⟩ := unhide HKA _ (unhide HBQ)
              rw [unhide HL0] at ea
              clear hbq hNq
              go_wp2_with fail
              refine (seen_any lb c _ h7 hc7).mono ?_
              rintro e wz ⟨rfl, hwz⟩
              rw [hwz, unhide HSN]
              clear hwz wz
              go_wp2_with fail
              go_quiet (fail)
              go_wp2_with fail
              go_roundg (its.length - (j + 1))
              case measure => have := A.out.1; omega
              case rel => exact ⟨j + 1, by omega, rfl, by go_num, by rw [unhide HIS, unhide HTT]; simp, by rw [unhide HTS, unhide HTT]; simp, by first | exact below_drewN (below_after A.out.2 (unhide HBQ)) _ | exact below_after A.out.2 (unhide HBQ)⟩
        | false =>
          rw [hT] at x1
          have HTT := hide hT
          have hrr := unhide HRES
          rw [hT, if_neg (by simp)] at hrr
          simp only [Prod.mk.injEq, PVal.mk.injEq] at hrr
          obtain ⟨⟨rfl, hrn⟩, rfl⟩ := hrr
          have hat := unhide HATN hT
          have hatc : ((inputsTo its j : Nat) : Int) < n := by omega
          clear hT
          rcases (unhide HV8).below (below_after (unhide HB1x) (unhide HB5)) with ⟨h0, _⟩ | ⟨gv, vcap, hvv, _, _, hvgl, hvx⟩
          · omega
          simp only [Value.slice.injEq] at hvv
          obtain ⟨rfl, _, rfl⟩ := hvv
          have l0 : w5.cell? ⟨gv, inputsTo its j, none⟩ = some (.int .i64 rn) := by
            rw [hvx _ (by omega), hrn, getD_at V 0 (by rw [unhide HVL]; exact hat)]
            simp [ints, unhide HVL, hat]
          clear hrn
          obtain ⟨wv, hwv⟩ : ∃ wv, wv = w5.alloc (.cells #[.int .i64 0, .int .i64 rn] 51) := ⟨_, rfl⟩
          have hbv : Below w5.heap.size w5 wv := by rw [hwv]; exact (Below.refl _ w5).alloc (Nat.le_refl _) _
          have hNV : wv.heap[w5.heap.size]? = some (.cells #[.int .i64 0, .int .i64 rn] 51) := by rw [hwv]; exact alloc_last w5 _
          have hNXv := (hbv.block _ (lt_of_block (unhide HN5))).trans (unhide HN5)
          have HNV := hide hNV
          have HNXv := hide hNXv
          have HBV := hide (below_after (unhide HBw) hbv)
          clear hbv hNV hNXv hvx
          go_wp2_with fail
          rw [← hwv]
          clear hwv
          clear x0 x1 x2
          obtain ⟨⟨x0, x1, x2⟩, _⟩ := box3 (unhide HNXv)
          obtain ⟨⟨v0, v1⟩, _⟩ := box2 (unhide HNV)
          have hsv := lt_of_block (unhide HNXv)
          have hsv2 := lt_of_block (unhide HNV)
          obtain ⟨S1, hS1⟩ : ∃ S1 : ByteArray, (⟨(shownOut ⟨0, rn⟩).toArray⟩ : ByteArray) = S1 := ⟨_, rfl⟩
          have hS1l : S1.size ≤ 8 := by rw [← hS1]; show (shownOut ⟨0, rn⟩).toArray.size ≤ _; rw [List.size_toArray]; exact shownOut_len (by simp only; omega) (by simp only; omega)
          have HSH := hide (kshown_any ⟨0, rn⟩ wv.drew (by simp only; omega) (by simp only; omega))
          rw [hS1] at HSH
          have HS1 : Hid (it.name ++ (⟨#[32]⟩ : ByteArray) ++ S1 = ⟨(it.name.data.toList ++ [32] ++ shownOut ⟨0, rn⟩).toArray⟩) := hide (by
            apply ByteArray.ext
            rw [← hS1]
            apply Array.toList_inj.1
            simp)
          clear hS1
          have q0 : ¬ 9223372036854775807 < it.name.size + 1 := by omega
          have q1 : ¬ 9223372036854775807 ≤ it.name.size := by omega
          have q2 : ¬ 9223372036854775806 < it.name.size := by omega
          have q3 : ¬ 9223372036854775807 < it.name.size + 1 + S1.size := by omega
          go_region_held3 (fun w' => w'.cell? ⟨wr.heap.size, 0, none⟩ = some (.string it.name) ∧ w'.cell? ⟨w5.heap.size, 0, none⟩ = some (.int .i64 0) ∧ w'.cell? ⟨w5.heap.size, 1, none⟩ = some (.int .i64 rn)) (go_keep) (first | (go_at_call 22; refine (unhide HSH).mono ?_; rintro e w6 ⟨rfl, hb6⟩; have HB6 := hide (below_after (unhide HBV) (below_of_drew hb6)); have hN6 := ((below_of_drew hb6).block _ (lt_of_block (unhide HNXv))).trans (unhide HNXv); have HN6 := hide hN6; obtain ⟨⟨y0, y1, y2⟩, _⟩ := box3 hN6; have hs6 := lt_of_block hN6; have hV6 := ((below_of_drew hb6).block _ (lt_of_block (unhide HNV))).trans (unhide HNV); obtain ⟨⟨q8, q9⟩, _⟩ := box2 hV6; clear hb6 hN6 hV6))
          · clear q0 q1 q2 q3 q8 q9
            clear y0 y1 y2
            obtain ⟨⟨y0, y1, y2⟩, _⟩ := box3 (unhide HN6)
            obtain ⟨ea, eb⟩ := unhide HKA _ (unhide HB6)
            go_wp2_with fail
            cases hsn : seenB lb c with
            | true =>
              have HBG : Hid (beginsP ⟨(line0 it lb c (⟨0, rn⟩, [])).toArray⟩ (it.name ++ (⟨#[32]⟩ : ByteArray) ++ S1) = true) := hide (by rw [unhide HS1]; exact begins_line hsn)
              have HLE := hide (unhide HLN (⟨0, rn⟩, []) hsn)
              have HSN := hide hsn
              clear hsn
              refine (begins_any _ _ _ (by omega) (by rw [ByteArray.size_append, ByteArray.size_append]; show it.name.size + 1 + S1.size ≤ _; omega)).mono ?_
              rintro e wq ⟨rfl, hbq⟩
              rw [unhide HBG]
              have HBQ := hide (below_after (unhide HB6) hbq)
              have hNq := (hbq.block _ (lt_of_block (unhide HN6))).trans (unhide HN6)
              clear y0 y1 y2 ea eb
              obtain ⟨⟨y0, y1, y2⟩, _⟩ := box3 hNq
              have hsq := lt_of_block hNq
              obtain ⟨ea, eb⟩ := unhide HKA _ (unhide HBQ)
              rw [← unhide HLE] at eb
              clear hbq hNq
              go_wp2_with fail
              refine (seen_any lb c _ h7 hc7).mono ?_
              rintro e wz ⟨rfl, hwz⟩
              rw [hwz, unhide HSN]
              clear hwz wz
              go_wp2_with fail
              go_quiet (fail)
              go_wp2_with fail
              go_roundg (its.length - (j + 1))
              case measure => have := A.out.1; omega
              case rel => exact ⟨j + 1, by omega, rfl, by go_num, by rw [unhide HIS, unhide HTT]; simp, by rw [unhide HTS, unhide HTT]; simp, by first | exact below_drewN (below_after A.out.2 (unhide HBQ)) _ | exact below_after A.out.2 (unhide HBQ)⟩
            | false =>
              have HL0 : Hid ((⟨(line0 it lb c (⟨0, rn⟩, [])).toArray⟩ : ByteArray) = it.name ++ (⟨#[32, 63]⟩ : ByteArray)) := hide (by
                apply ByteArray.ext
                apply Array.toList_inj.1
                unfold line0
                rw [hsn]
                simp)
              have HSN := hide hsn
              clear hsn
              refine (begins_any _ _ _ (by omega) (by rw [ByteArray.size_append, ByteArray.size_append]; show it.name.size + 1 + S1.size ≤ _; omega)).mono ?_
              rintro e wq ⟨rfl, hbq⟩
              generalize beginsP ⟨(line0 it lb c (⟨0, rn⟩, [])).toArray⟩ (it.name ++ (⟨#[32]⟩ : ByteArray) ++ S1) = bg at *
              have HBQ := hide (below_after (unhide HB6) hbq)
              have hNq := (hbq.block _ (lt_of_block (unhide HN6))).trans (unhide HN6)
              clear y0 y1 y2 ea eb
              obtain ⟨⟨y0, y1, y2⟩, _⟩ := box3 hNq
              have hsq := lt_of_block hNq
              obtain ⟨ea, eb⟩ := unhide HKA _ (unhide HBQ)
              rw [unhide HL0] at ea
              clear hbq hNq
              go_wp2_with fail
              refine (seen_any lb c _ h7 hc7).mono ?_
              rintro e wz ⟨rfl, hwz⟩
              rw [hwz, unhide HSN]
              clear hwz wz
              go_wp2_with fail
              go_quiet (fail)
              go_wp2_with fail
              go_roundg (its.length - (j + 1))
              case measure => have := A.out.1; omega
              case rel => exact ⟨j + 1, by omega, rfl, by go_num, by rw [unhide HIS, unhide HTT]; simp, by rw [unhide HTS, unhide HTT]; simp, by first | exact below_drewN (below_after A.out.2 (unhide HBQ)) _ | exact below_after A.out.2 (unhide HBQ)⟩
    · have hje : ¬ (j : Int) < its.length := by omega
      have HBF := hide (below_after (unhide HB8) hb)
      clear hb hits
      go_wp2_with fail
      go_ret
      exact ⟨rfl, unhide HBF⟩
end Go.Proofs.YthnggjaecngbiaaGreatDoor
