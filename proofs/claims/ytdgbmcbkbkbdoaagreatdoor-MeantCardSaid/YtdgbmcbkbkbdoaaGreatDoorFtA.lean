import Derived.Test.YtdgbmcbkbkbdoaaGreatDoorEvG
namespace Go.Proofs.YtdgbmcbkbkbdoaaGreatDoor
open Go.RowKit

set_option maxRecDepth 100000 in
set_option maxHeartbeats 3200000 in
theorem fits_any (v : Value) (xs : List LItem) (vl : Value) (vals : List Int) (w : World) (hit : ItemsV w v xs) (hlen : xs.length ≤ 12) (hvl : SlAt w 1 vl vals.length (ints vals)) :
    Calls Tryz.prog 37 #[v, vl] w fun e w' => e = .returned (.bool (fitsP (xs.map LItem.it) vals)) ∧ Below w.heap.size w w' := by
  obtain ⟨io, ic, rfl⟩ := hit.1.form
  obtain ⟨vo, vc, rfl⟩ := hvl.form
  have HI := hide hit
  have HV := hide hvl
  clear hit hvl
  go_enter Tryz.func37, Tryz.ntmps37
  go_wp2_with fail
  go_loopg [5, 10] xs.length (fun g n i wr => ∃ j : Nat, j ≤ xs.length ∧ g = xs.length - j ∧ i = .int .i64 (j : Int) ∧ n = .int .i64 (inputsTo (xs.map LItem.it) j : Int) ∧ Below w.heap.size w wr)
  case atStart => exact ⟨0, by omega, rfl, rfl, by simp [inputsTo], Below.refl _ _⟩
  case round =>
    obtain ⟨j, hj, hg, rfl, rfl, hb⟩ := hrel
    have A : Aside (gk = xs.length - j ∧ Below w.heap.size w wr) := ⟨hg, hb⟩
    have hile := inputsTo_le (xs.map LItem.it) j
    clear hg
    by_cases hlt : j < xs.length
    · rcases (unhide HI).1 with ⟨h0, _⟩ | ⟨g, cap', hv, hc, hm, hgl, hx⟩
      · omega
      simp only [Value.slice.injEq] at hv
      obtain ⟨rfl, _, rfl⟩ := hv
      have key : ∀ i, i < 7 → wr.cell? ⟨g, j * 7 + i, none⟩ = (itCells xs[j])[i]? := fun i hi => by
        rw [hb.cell (p := ⟨g, j * 7 + i, none⟩) hgl, hx _ (by omega)]
        exact flat_at itCells 7 (fun _ => rfl) xs j i hlt hi
      have k0 := key 0 (by omega)
      have k1 := key 1 (by omega)
      have k2 := key 2 (by omega)
      have k3 := key 3 (by omega)
      have k4 := key 4 (by omega)
      have k5 := key 5 (by omega)
      have k6 := key 6 (by omega)
      simp only [itCells, icells, List.getElem?_cons_zero, List.getElem?_cons_succ, Nat.add_zero] at k0 k1 k2 k3 k4 k5 k6
      have hji : j < (xs.map LItem.it).length := by simpa using hlt
      have hxe : (xs.map LItem.it)[j] = xs[j].it := by simp
      have hjc : (j : Int) < xs.length := by omega
      have his := inputsTo_succ hji
      rw [hxe] at his
      have hxi := (unhide HI).2 xs[j] (List.getElem_mem hlt)
      generalize xs[j] = x at *
      obtain ⟨co, cc, hcv⟩ := hxi.1.form
      obtain ⟨ro, rc, hrv⟩ := hxi.2.2.1.form
      obtain ⟨⟨nm, bT, mk, po, cs, dr, rl⟩, cv, rv0, zv⟩ := x
      simp only at k0 k1 k2 k3 k4 k5 k6 hcv hrv his
      subst hcv hrv
      have HIS := hide his
      clear key hx hc hm hgl hb hxi hxe his
      cases bT with
      | true =>
        go_wp2_with fail
        go_roundg (xs.length - (j + 1))
        case measure => have := A.out.1; omega
        case rel => exact ⟨j + 1, by omega, rfl, by go_num, by rw [unhide HIS]; rfl, A.out.2.alloc (A.out.2.size) _⟩
      | false =>
        go_wp2_with fail
        go_roundg (xs.length - (j + 1))
        case measure => have := A.out.1; omega
        case rel => exact ⟨j + 1, by omega, rfl, by go_num, by rw [unhide HIS]; simp, A.out.2.alloc (A.out.2.size) _⟩
    · have hje : j = xs.length := by omega
      have hjc : ¬ (j : Int) < xs.length := by omega
      have hinp : inputsTo (xs.map LItem.it) j = inputsP (xs.map LItem.it) := by unfold inputsP; rw [hje]; simp
      rw [hinp] at *
      by_cases heq : vals.length = inputsP (xs.map LItem.it)
      · have heqb : ((vals.length : Int) == (inputsP (xs.map LItem.it) : Int)) = true := by simp; omega
        have HFI : Hid (fitsP (xs.map LItem.it) vals = !(vals.any numBeyond)) := hide (by unfold fitsP; simp [heq])
        have HVr := hide ((unhide HV).below hb)
        have hv12 : vals.length ≤ 100000 := by
          rw [heq]
          have := inputsTo_le (xs.map LItem.it) (xs.map LItem.it).length
          unfold inputsP
          rw [List.length_map] at this ⊢
          omega
        clear hje hb heq hinp
        go_wp2_with fail
        refine (containsInts_any _ _ _ (unhide HVr) hv12).mono ?_
        rintro e w2 ⟨rfl, hb2⟩
        have HB2 := hide (below_after A.out.2 hb2)
        clear hb2
        go_wp2
        go_ret
        exact ⟨ret_bool (unhide HFI).symm, unhide HB2⟩
      · have heqb : ((vals.length : Int) == (inputsP (xs.map LItem.it) : Int)) = false := by simp; omega
        have HFI : Hid (fitsP (xs.map LItem.it) vals = false) := hide (by unfold fitsP; simp [heq])
        clear hje hb heq hinp
        go_wp2_with fail
        go_ret
        exact ⟨ret_bool (unhide HFI).symm, A.out.2⟩

set_option maxHeartbeats 400000 in
theorem isSet_any (n : Int) (w : World) :
    Calls Tryz.prog 36 #[.int .i64 n] w fun e w' => e = .returned (.bool (decide (0 ≤ n ∧ n ≤ 7))) ∧ Below w.heap.size w w' := by
  by_cases h1 : 0 ≤ n
  · go_enter Tryz.func36, Tryz.ntmps36
    go_wp2
    go_ret
    refine ⟨ret_bool ?_, Below.refl _ _⟩
    rw [Bool.eq_iff_iff]
    simp
    omega
  · go_enter Tryz.func36, Tryz.ntmps36
    go_wp2
    go_ret
    refine ⟨ret_bool ?_, Below.refl _ _⟩
    rw [Bool.eq_iff_iff]
    simp
    omega
end Go.Proofs.YtdgbmcbkbkbdoaaGreatDoor
