import Derived.Test.YthnggjaecngbiaaGreatDoorPlA
namespace Go.Proofs.YthnggjaecngbiaaGreatDoor
open Go.RowKit

set_option maxRecDepth 100000 in
set_option maxHeartbeats 3200000 in
theorem writeRule_any {W0 : World} {b : Nat} {l : List UInt8} {w : World} (ao : Option Addr) (cap : Nat) (ts : List PTest) (num : Int) (h : WInv W0 b l w) (hl : l.length ≤ 100000000000000) (hv : SlAt W0 4 (.slice ao ts.length cap) ts.length (tsCells ts)) (hwf : WfR ⟨ts, num⟩) (ht : Tab W0) :
    Calls Tryz.prog 95 #[.pointer (some ⟨b, 0, none⟩), .agg #[.slice ao ts.length cap, .int .i64 num]] w fun e w' => e = .returned (.tuple #[]) ∧ WInv W0 b (l ++ ruleOut ⟨ts, num⟩) w' ∧ Lib.OthersKept 5 (some b) w w' := by
  have hbl := h.blk
  have hNb : w.heap.size ≠ b := by omega
  have hlen := hwf.len
  have hnum := hwf.num
  have htl := tOuts_len false ts hwf.tests
  simp only at hlen hnum
  have HWF := hide hwf.tests
  have HV := hide hv
  have HT := hide ht
  have hb0 : Below w.heap.size w (w.alloc (.cells #[.slice ao ts.length cap, .int .i64 num] 160)) := (Below.refl _ w).alloc (Nat.le_refl _) _
  have HW := hide (h.below hb0)
  have HO := hide (others_below (e := 5) (b := some b) hb0)
  have HN : Hid (Box w.heap.size #[.slice ao ts.length cap, .int .i64 num] 160 (w.alloc (.cells #[.slice ao ts.length cap, .int .i64 num] 160))) := alloc_last w _
  clear hb0 h hv ht hwf
  go_enter Tryz.func95, Tryz.ntmps95
  go_wp2_with fail
  go_loopg [9] ts.length (fun g i wr => ∃ j : Nat, j ≤ ts.length ∧ g = ts.length - j ∧ i = .int .i64 (j : Int) ∧ WInv W0 b (l ++ tOuts false (ts.take j)) wr ∧ Lib.OthersKept 5 (some b) w wr ∧ Box w.heap.size #[.slice ao ts.length cap, .int .i64 num] 160 wr)
  case atStart => exact ⟨0, by omega, rfl, rfl, by simpa [tOuts] using unhide HW, unhide HO, unhide HN⟩
  case round =>
    obtain ⟨j, hj, hg, rfl, hwi, hok, hbx⟩ := hrel
    have A : Aside (gk = ts.length - j ∧ WInv W0 b (l ++ tOuts false (ts.take j)) wr ∧ Lib.OthersKept 5 (some b) w wr ∧ Box w.heap.size #[.slice ao ts.length cap, .int .i64 num] 160 wr) := ⟨hg, hwi, hok, hbx⟩
    clear hg hok HW HO HN
    have hlj : (tOuts false (ts.take j)).length ≤ 1100000 := by
      have := tOuts_len false (ts.take j) (fun t ht => HWF.out t (List.mem_of_mem_take ht))
      simp at this
      omega
    by_cases hlt : j < ts.length
    · rcases unhide HV with ⟨h0, _⟩ | ⟨g, cap', hv, hc, hm, hgl, hx⟩
      · omega
      simp only [Value.slice.injEq] at hv
      obtain ⟨rfl, _, rfl⟩ := hv
      have key : ∀ i, i < 4 → wr.cell? ⟨g, j * 4 + i, none⟩ = (tcells ts[j])[i]? := fun i hi => by
        rw [hwi.bl.cell (p := ⟨g, j * 4 + i, none⟩) hgl, hx _ (by omega)]
        exact flat_at tcells 4 (fun _ => rfl) ts j i hlt hi
      have k0 := key 0 (by omega)
      have k1 := key 1 (by omega)
      have k2 := key 2 (by omega)
      have k3 := key 3 (by omega)
      simp only [tcells, List.getElem?_cons_zero, List.getElem?_cons_succ, Nat.add_zero] at k0 k1 k2 k3
      have hwt := HWF.out ts[j] (List.getElem_mem hlt)
      obtain ⟨⟨t0, t1, t2, t3⟩, htj⟩ : ∃ t, ts[j] = t := ⟨_, rfl⟩
      rw [htj] at k0 k1 k2 k3 hwt
      have HTJ := hide htj
      simp only at k0 k1 k2 k3
      have hnots := hwt.nots
      simp only at hnots
      have hbo := bareOut_len hwt
      have hjc : (j : Int) < ts.length := by omega
      have hwb := hwi.blk
      have hMb : wr.heap.size ≠ b := by omega
      have hb1 : Below wr.heap.size wr (wr.alloc (.cells #[.int .i64 (t0 : Int), .int .i64 t1, .int .i64 t2, .int .i64 t3] 193)) := (Below.refl _ wr).alloc (Nat.le_refl _) _
      have HWa := hide (hwi.below hb1)
      have HOa := hide (A.out.2.2.1.trans (others_below hb1))
      have HMa : Hid (Box wr.heap.size #[.int .i64 (t0 : Int), .int .i64 t1, .int .i64 t2, .int .i64 t3] 193 (wr.alloc (.cells #[.int .i64 (t0 : Int), .int .i64 t1, .int .i64 t2, .int .i64 t3] 193))) := alloc_last wr _
      have HNa : Hid (Box w.heap.size #[.slice (some ⟨g, 0, none⟩) ts.length cap, .int .i64 num] 160 (wr.alloc (.cells #[.int .i64 (t0 : Int), .int .i64 t1, .int .i64 t2, .int .i64 t3] 193))) := (hb1.block _ (lt_of_block hbx)).trans hbx
      clear key hx hc hm hgl hwi hbx hb1 htj
      by_cases h0 : j = 0
      · have h0b : decide (0 < j) = false := by simp; omega
        have H0 := hide h0
        clear h0
        go_wp2_with fail
        have HWb := HWa
        have HOb := HOa
        have HMb := HMa
        have HNb := HNa
        clear HWa HOa HMa HNa k0 k1 k2 k3
        refine (Tryz.strings_Repeat ⟨#[33]⟩ t0 _ (by omega) (by show 1 * t0 ≤ _; omega)).mono ?_
        rintro e wc ⟨rfl, hbc⟩
        have HWc := hide ((unhide HWb).below hbc)
        have HOc := hide ((unhide HOb).trans (others_below hbc))
        have hMc : Box wr.heap.size #[.int .i64 (t0 : Int), .int .i64 t1, .int .i64 t2, .int .i64 t3] 193 wc := (hbc.block _ (lt_of_block (unhide HMb))).trans (unhide HMb)
        have hNc : Box w.heap.size #[.slice (some ⟨g, 0, none⟩) ts.length cap, .int .i64 num] 160 wc := (hbc.block _ (lt_of_block (unhide HNb))).trans (unhide HNb)
        have HMc := hide hMc
        have HNc := hide hNc
        clear hbc hMc hNc HWb HOb HMb HNb
        go_wp2_with fail
        refine (ws_any _ (unhide HWc) (by simp; omega) (by show (Lib.repeatL [33] t0).toArray.size ≤ _; rw [List.size_toArray, Lib.repeatL_length]; simp; omega)).mono ?_
        rintro e wd ⟨rfl, hwd, hod⟩
        have HWd := hide hwd
        have HOd := hide ((unhide HOc).trans hod)
        have hMd := (unhide HMc).kept hod hMb (by decide)
        have hNd := (unhide HNc).kept hod hNb (by decide)
        have HMd := hide hMd
        have HNd := hide hNd
        obtain ⟨k0, k1, k2, k3, -⟩ := cells4 hMd
        clear hwd hod HWc HOc HMc HNc hMd hNd
        go_wp2_with fail
        refine (bareTestOut_any ⟨t0, t1, t2, t3⟩ W0 _ hwt (unhide HWd).bl (unhide HT)).mono ?_
        rintro e we ⟨rfl, hbe⟩
        have HWe := hide ((unhide HWd).below hbe)
        have HOe := hide ((unhide HOd).trans (others_below hbe))
        have hNe : Box w.heap.size #[.slice (some ⟨g, 0, none⟩) ts.length cap, .int .i64 num] 160 we := (hbe.block _ (lt_of_block (unhide HNd))).trans (unhide HNd)
        have HNe := hide hNe
        clear hbe hNe HWd HOd HMd HNd k0 k1 k2 k3
        go_wp2_with fail
        refine (ws_any _ (unhide HWe) (by simp [Lib.repeatL_length]; omega) (by show (bareOut ⟨t0, t1, t2, t3⟩).toArray.size ≤ _; rw [List.size_toArray]; omega)).mono ?_
        rintro e wf ⟨rfl, hwf, hof⟩
        have HWf := hide hwf
        have HOf := hide ((unhide HOe).trans hof)
        have HNf := hide ((unhide HNe).kept hof hNb (by decide))
        clear hwf hof HWe HOe HNe
        go_wp2
        go_roundg (ts.length - (j + 1))
        case measure => have := A.out.1; omega
        case rel =>
          refine ⟨j + 1, by omega, rfl, by go_num, ?_, unhide HOf, unhide HNf⟩
          have h9 := unhide HWf
          rw [List.take_succ_eq_append_getElem hlt, tOuts_snoc, unhide HTJ]
          have e0 : ts.take j = [] := by rw [unhide H0]; rfl
          rw [if_pos ⟨rfl, e0⟩]
          simpa [testOut] using h9
      · have h0b : decide (0 < j) = true := by simp; omega
        have H0 := hide h0
        clear h0
        go_wp2_with fail
        refine (wb_any _ (unhide HWa) (by simp; omega) (by simp) (by simp)).mono ?_
        rintro e wb ⟨rfl, hwb', hob⟩
        have HWb := hide hwb'
        have HOb := hide ((unhide HOa).trans hob)
        have hMb' := (unhide HMa).kept hob hMb (by decide)
        have HMb := hide hMb'
        have HNb := hide ((unhide HNa).kept hob hNb (by decide))
        obtain ⟨k0', k1', k2', k3', -⟩ := cells4 hMb'
        clear hwb' hob HWa HOa HMa HNa k0 k1 k2 k3 hMb'
        go_wp2_with fail
        clear k0' k1' k2' k3'
        refine (Tryz.strings_Repeat ⟨#[33]⟩ t0 _ (by omega) (by show 1 * t0 ≤ _; omega)).mono ?_
        rintro e wc ⟨rfl, hbc⟩
        have HWc := hide ((unhide HWb).below hbc)
        have HOc := hide ((unhide HOb).trans (others_below hbc))
        have hMc : Box wr.heap.size #[.int .i64 (t0 : Int), .int .i64 t1, .int .i64 t2, .int .i64 t3] 193 wc := (hbc.block _ (lt_of_block (unhide HMb))).trans (unhide HMb)
        have hNc : Box w.heap.size #[.slice (some ⟨g, 0, none⟩) ts.length cap, .int .i64 num] 160 wc := (hbc.block _ (lt_of_block (unhide HNb))).trans (unhide HNb)
        have HMc := hide hMc
        have HNc := hide hNc
        clear hbc hMc hNc HWb HOb HMb HNb
        go_wp2_with fail
        refine (ws_any _ (unhide HWc) (by simp; omega) (by show (Lib.repeatL [33] t0).toArray.size ≤ _; rw [List.size_toArray, Lib.repeatL_length]; simp; omega)).mono ?_
        rintro e wd ⟨rfl, hwd, hod⟩
        have HWd := hide hwd
        have HOd := hide ((unhide HOc).trans hod)
        have hMd := (unhide HMc).kept hod hMb (by decide)
        have hNd := (unhide HNc).kept hod hNb (by decide)
        have HMd := hide hMd
        have HNd := hide hNd
        obtain ⟨k0, k1, k2, k3, -⟩ := cells4 hMd
        clear hwd hod HWc HOc HMc HNc hMd hNd
        go_wp2_with fail
        refine (bareTestOut_any ⟨t0, t1, t2, t3⟩ W0 _ hwt (unhide HWd).bl (unhide HT)).mono ?_
        rintro e we ⟨rfl, hbe⟩
        have HWe := hide ((unhide HWd).below hbe)
        have HOe := hide ((unhide HOd).trans (others_below hbe))
        have hNe : Box w.heap.size #[.slice (some ⟨g, 0, none⟩) ts.length cap, .int .i64 num] 160 we := (hbe.block _ (lt_of_block (unhide HNd))).trans (unhide HNd)
        have HNe := hide hNe
        clear hbe hNe HWd HOd HMd HNd k0 k1 k2 k3
        go_wp2_with fail
        refine (ws_any _ (unhide HWe) (by simp [Lib.repeatL_length]; omega) (by show (bareOut ⟨t0, t1, t2, t3⟩).toArray.size ≤ _; rw [List.size_toArray]; omega)).mono ?_
        rintro e wf ⟨rfl, hwf, hof⟩
        have HWf := hide hwf
        have HOf := hide ((unhide HOe).trans hof)
        have HNf := hide ((unhide HNe).kept hof hNb (by decide))
        clear hwf hof HWe HOe HNe
        go_wp2
        go_roundg (ts.length - (j + 1))
        case measure => have := A.out.1; omega
        case rel =>
          refine ⟨j + 1, by omega, rfl, by go_num, ?_, unhide HOf, unhide HNf⟩
          have h9 := unhide HWf
          rw [List.take_succ_eq_append_getElem hlt, tOuts_snoc, unhide HTJ]
          have e0 : ts.take j ≠ [] := by
            intro e0
            have e1 := congrArg List.length e0
            rw [List.length_take, List.length_nil] at e1
            have := unhide H0
            omega
          rw [if_neg (fun x => e0 x.2)]
          simpa [testOut, u8] using h9
    · have hje : j = ts.length := by omega
      have HJ := hide hje
      have hjc : ¬ (j : Int) < ts.length := by omega
      have HNr := hide hbx
      clear hje hwi hbx
      go_wp2_with fail
      refine (wb_any _ A.out.2.1 (by simp; omega) (by simp) (by simp)).mono ?_
      rintro e wb ⟨rfl, hwb', hob⟩
      have HWb := hide hwb'
      have HOb := hide (A.out.2.2.1.trans hob)
      have hNb' := (unhide HNr).kept hob hNb (by decide)
      have k1 : wb.cell? ⟨w.heap.size, 1, none⟩ = some (.int .i64 num) := by unfold Box at hNb'; simp [World.cell?, hNb']
      clear hwb' hob hNb' HNr
      go_wp2_with fail
      refine (itoa_any _ _ hnum.1 hnum.2 (tab_below (unhide HWb).bl (unhide HT))).mono ?_
      rintro e wc ⟨rfl, hbc⟩
      have HWc := hide ((unhide HWb).below hbc)
      have HOc := hide ((unhide HOb).trans (others_below hbc))
      clear hbc HWb HOb k1
      go_wp2_with fail
      have hil := itoa_len hnum.1 hnum.2
      refine (ws_any _ (unhide HWc) (by simp; omega) (by show (Lib.itoa num).toArray.size ≤ _; rw [List.size_toArray]; omega)).mono ?_
      rintro e wd ⟨rfl, hwd, hod⟩
      have HWd := hide hwd
      have HOd := hide ((unhide HOc).trans hod)
      clear hwd hod HWc HOc
      go_wp2_with fail
      refine (wb_any _ (unhide HWd) (by simp; omega) (by simp) (by simp)).mono ?_
      rintro e we ⟨rfl, hwe, hoe⟩
      have HWe := hide hwe
      have HOe := hide ((unhide HOd).trans hoe)
      clear hwe hoe HWd HOd
      go_wp2
      go_end0
      refine ⟨rfl, ?_, unhide HOe⟩
      have h9 := unhide HWe
      rw [unhide HJ, List.take_length] at h9
      simpa [ruleOut, u8] using h9

end Go.Proofs.YthnggjaecngbiaaGreatDoor
