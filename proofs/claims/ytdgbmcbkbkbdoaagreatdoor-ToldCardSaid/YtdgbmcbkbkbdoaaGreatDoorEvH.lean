import Derived.Test.YtdgbmcbkbkbdoaaGreatDoorEvG
namespace Go.Proofs.YtdgbmcbkbkbdoaaGreatDoor
open Go.RowKit

set_option maxRecDepth 100000 in
set_option maxHeartbeats 3200000 in
theorem evcols_any (x : LItem) (iv0 : Value) (xs : List LItem) (rvv : Value) (rs : List (PVal × Value)) (w : World) (hx : ItemV w x) (hit : ItemsV w iv0 xs) (hrs : SlAt w 3 rvv rs.length (rs.flatMap rc3)) (hxl : xs.length ≤ 12) (_hrl : rs.length ≤ 12) (hc3 : x.it.cols.length ≤ 3) (hah : ∀ c ∈ x.it.cols, ∃ i : Nat, placeP (xs.map LItem.it) c = (i : Int) ∧ i < rs.length) :
    Calls Tryz.prog 90 #[iv x.it x.cv x.rv, iv0, rvv] w fun e w' => ∃ v, e = .returned v ∧ Below w.heap.size w w' ∧ SlAt w' 2 v x.it.cols.length ((x.it.cols.map fun c => (rs.getD (placeP (xs.map LItem.it) c).toNat rZero).1).flatMap vcells) := by
  obtain ⟨it, cv, rv0, zv⟩ := x
  obtain ⟨co, cc, hcv⟩ := hx.1.form
  obtain ⟨ro, rc, hrv⟩ := hx.2.2.1.form
  obtain ⟨io, ic, hiv⟩ := hit.1.form
  obtain ⟨so, sc, hsv⟩ := hrs.form
  simp only at hcv hrv
  subst hcv hrv hiv hsv
  simp only at hc3 hah ⊢
  obtain ⟨vf, hvf⟩ : ∃ vf : ByteArray → PVal, vf = fun c => (rs.getD (placeP (xs.map LItem.it) c).toNat rZero).1 := ⟨_, rfl⟩
  rw [← hvf]
  have HVF := hide hvf
  clear hvf
  obtain ⟨w0, hw0⟩ : ∃ w0, w0 = w.alloc (.cells (icells it (.slice co it.cols.length cc) (.slice ro it.rules.length rc)) 114) := ⟨_, rfl⟩
  have hb0 : Below w.heap.size w w0 := by rw [hw0]; exact (Below.refl _ w).alloc (Nat.le_refl _) _
  have hN0 : w0.heap[w.heap.size]? = some (.cells (icells it (.slice co it.cols.length cc) (.slice ro it.rules.length rc)) 114) := by
    rw [hw0]; exact alloc_last w _
  have HX := hide (hx.below hb0)
  have HI := hide (hit.below hb0)
  have HR := hide (hrs.below hb0)
  have HA := hide hah
  have HB0 := hide hb0
  have HN0 := hide hN0
  obtain ⟨⟨c0, c1, c2, c3, c4, c5, c6⟩, f0, f1, f2, f3, f4, f5, f6⟩ := cells7 hN0
  have hs1 : w.heap.size < w0.heap.size := lt_of_block hN0
  have hmk := make_values it.cols.length (by omega)
  have HW0 := hide hw0
  clear hx hit hrs hah hb0 hN0
  simp only [iv, icells] at hw0 ⊢
  clear c0 c1 c2 c3 c5 c6 f0 f1 f2 f3 f5 f6
  go_enter Tryz.func90, Tryz.ntmps90
  go_wp2_with fail
  rw [← hw0]
  have hsz0 : w0.heap.size = w.heap.size + 1 := by rw [hw0]; simp
  clear hw0 c4 f4 hmk
  go_loopg [17] it.cols.length (fun g i wr => ∃ j : Nat, j ≤ it.cols.length ∧ g = it.cols.length - j ∧ i = .int .i64 (j : Int) ∧ Below w0.heap.size w0 wr ∧ wr.heap[w.heap.size + 1]? = some (.cells (flatZ vcells PVal.zero ((it.cols.take j).map vf) it.cols.length).toArray 51))
  case atStart => exact ⟨0, by omega, rfl, rfl, (Below.refl _ _).alloc (Nat.le_refl _) _, by rw [← hsz0]; simpa using alloc_last w0 (.cells (flatZ vcells PVal.zero [] it.cols.length).toArray 51)⟩
  case round =>
    obtain ⟨j, hj, hg, rfl, hb, harr⟩ := hrel
    have A : Aside (gk = it.cols.length - j ∧ Below w0.heap.size w0 wr ∧ wr.heap[w.heap.size + 1]? = some (.cells (flatZ vcells PVal.zero ((it.cols.take j).map vf) it.cols.length).toArray 51)) := ⟨hg, hb, harr⟩
    clear hg
    have hnl : ((it.cols.take j).map vf).length = j := by simp; omega
    by_cases hlt : j < it.cols.length
    · rcases (unhide HX).1 with ⟨h0, _⟩ | ⟨g2, cap2, hv2, hc2, hm2, hgl2, hx2⟩
      · simp only at h0; omega
      simp only [Value.slice.injEq] at hv2
      obtain ⟨rfl, _, rfl⟩ := hv2
      have k0 : wr.cell? ⟨g2, j, none⟩ = some (.string it.cols[j]) := by
        rw [hb.cell (p := ⟨g2, j, none⟩) hgl2, hx2 j (by simp; omega)]
        simp [hlt]
      obtain ⟨pn, hpn, hpl⟩ := unhide HA it.cols[j] (List.getElem_mem hlt)
      have hns : (it.cols.take (j + 1)).map vf = (it.cols.take j).map vf ++ [vf it.cols[j]] := by
        rw [List.take_succ_eq_append_getElem hlt, List.map_append]; rfl
      have hvc : vf it.cols[j] = rs[pn].1 := by
        rw [unhide HVF]; simp only; rw [hpn, Int.toNat_natCast, getD_at _ _ hpl]
      rw [hvc] at hns
      generalize it.cols[j] = col at *
      have hjc : (j : Int) < it.cols.length := by omega
      have HNS := hide hns
      have HPN := hide hpn
      have hsw : w.heap.size + 1 < wr.heap.size := lt_of_block harr
      have HIr := hide ((unhide HI).below hb)
      have HRr := hide ((unhide HR).below hb)
      clear hx2 hc2 hm2 hb hns hpn hvc
      go_wp2_with fail
      refine (place_any _ xs col _ (unhide HIr) (by omega)).mono ?_
      rintro e w2 ⟨rfl, hb2⟩
      rw [unhide HPN]
      rcases (unhide HRr).below hb2 with ⟨h0, _⟩ | ⟨g3, cap3, hv3, hc3', hm3, hgl3, hx3⟩
      · omega
      simp only [Value.slice.injEq] at hv3
      obtain ⟨rfl, _, rfl⟩ := hv3
      have l0 : w2.cell? ⟨g3, pn * 3, none⟩ = some (.int .i64 rs[pn].1.kind) := by
        rw [hx3 _ (by omega)]
        have := flat_at rc3 3 (fun _ => rfl) rs pn 0 hpl (by omega)
        rw [Nat.add_zero] at this
        rw [this]; rfl
      have l1 : w2.cell? ⟨g3, pn * 3 + 1, none⟩ = some (.int .i64 rs[pn].1.n) := by
        rw [hx3 _ (by omega)]
        have := flat_at rc3 3 (fun _ => rfl) rs pn 1 hpl (by omega)
        rw [this]; rfl
      have l2 : w2.cell? ⟨g3, pn * 3 + 2, none⟩ = some rs[pn].2 := by
        rw [hx3 _ (by omega)]
        have := flat_at rc3 3 (fun _ => rfl) rs pn 2 hpl (by omega)
        rw [this]; rfl
      generalize rs[pn] = y at *
      have harr2 := (hb2.block _ hsw).trans harr
      have e0 : w2.cell? ⟨w.heap.size + 1, j * 2, none⟩ = some (.int .i64 0) := by
        rw [(arr_cell harr2 _).1]
        have := flatZ_zero vcells PVal.zero (l := (it.cols.take j).map vf) (n := it.cols.length) (m := 2) (by omega) (fun _ => rfl) 0 (by omega)
        rw [hnl, Nat.add_zero] at this
        rw [this]; rfl
      have e1 : w2.cell? ⟨w.heap.size + 1, j * 2 + 1, none⟩ = some (.int .i64 0) := by
        rw [(arr_cell harr2 _).1]
        have := flatZ_zero vcells PVal.zero (l := (it.cols.take j).map vf) (n := it.cols.length) (m := 2) (by omega) (fun _ => rfl) 1 (by omega)
        rw [hnl] at this
        rw [this]; rfl
      have q0 := (arr_cell harr2 (j * 2)).2
      have q1 := (arr_cell harr2 (j * 2 + 1)).2
      have hsw2 : w.heap.size + 1 < w2.heap.size := lt_of_block harr2
      have hpc : (pn : Int) < rs.length := by omega
      have HSET : Hid (((w2.setCell ⟨w.heap.size + 1, j * 2, none⟩ (.int .i64 y.1.kind)).setCell ⟨w.heap.size + 1, j * 2 + 1, none⟩ (.int .i64 y.1.n)).heap[w.heap.size + 1]? = some (.cells (flatZ vcells PVal.zero ((it.cols.take j).map vf ++ [y.1]) it.cols.length).toArray 51)) := hide (by
        rw [heap_set_same (heap_set_same harr2 _)]
        have := flatZ_set2 vcells PVal.zero (l := (it.cols.take j).map vf) (n := it.cols.length) (by omega) y.1 (fun _ => rfl) rfl (a := .int .i64 y.1.kind) (b := .int .i64 y.1.n) rfl
        rw [hnl] at this
        rw [this])
      have HB2 := hide (below_after A.out.2.1 hb2)
      clear hx3 hc3' hm3 hb2 harr2 harr
      go_wp2_with fail
      go_roundg (it.cols.length - (j + 1))
      case measure => have := A.out.1; omega
      case rel =>
        refine ⟨j + 1, by omega, rfl, by go_num, ((unhide HB2).setCell (p := ⟨w.heap.size + 1, j * 2, none⟩) (by simp only; omega) _).setCell (p := ⟨w.heap.size + 1, j * 2 + 1, none⟩) (by simp only; omega) _, ?_⟩
        rw [unhide HNS]
        exact unhide HSET
    · have hje : j = it.cols.length := by omega
      have hjc : ¬ (j : Int) < it.cols.length := by omega
      have HSL : Hid (SlAt wr 2 (.slice (some ⟨w.heap.size + 1, 0, none⟩) it.cols.length it.cols.length) it.cols.length ((it.cols.map vf).flatMap vcells)) := hide (by
        rw [hje, List.take_length, show flatZ vcells PVal.zero (it.cols.map vf) it.cols.length = (it.cols.map vf).flatMap vcells by
          have := flatZ_full vcells PVal.zero (it.cols.map vf)
          rw [List.length_map] at this
          exact this] at harr
        exact sl_of_arr harr (Nat.le_refl _) (by unfold maxLen; omega))
      clear hje hb harr hnl
      go_wp2
      go_ret
      have hsl := unhide HSL
      exact ⟨_, rfl, below_after (unhide HB0) A.out.2.1, hsl⟩
end Go.Proofs.YtdgbmcbkbkbdoaaGreatDoor
