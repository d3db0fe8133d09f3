import Derived.Test.YtdgbmcbkbkbdoaaGreatDoorEvI
namespace Go.Proofs.YtdgbmcbkbkbdoaaGreatDoor
open Go.RowKit

theorem tabsTo_len (its : List PItem) (rs : List (PVal × List Nat)) : ∀ j, (tabsTo its rs j).length ≤ j
  | 0 => by simp [tabsTo]
  | j + 1 => by
    have := tabsTo_len its rs j
    rw [tabsTo, List.length_append]
    split <;> simp <;> omega

set_option maxRecDepth 100000 in
set_option maxHeartbeats 3200000 in
theorem tables_any (v : Value) (xs : List LItem) (vl : Value) (vals : List Int) (w : World) (hit : ItemsV w v xs) (ok : OkPlan (xs.map LItem.it)) (hwf : ∀ x ∈ xs, WfI x.it) (hvl : SlAt w 1 vl vals.length (ints vals)) (hin : vals.length = inputsP (xs.map LItem.it)) :
    Calls Tryz.prog 42 #[v, vl] w fun e w' => ∃ tv, e = .returned tv ∧ Below w.heap.size w w' ∧ w'.ownsRow w.heap.size 51 2 tv (tabsP (xs.map LItem.it) vals).length ((tabsP (xs.map LItem.it) vals).flatMap vcells) := by
  obtain ⟨io, ic, rfl⟩ := hit.1.form
  obtain ⟨vo, vc, rfl⟩ := hvl.form
  have hlen : xs.length ≤ 12 := by have := ok.len; simpa using this
  have HI := hide hit
  have HK := hide ok
  have HW := hide hwf
  have HV := hide hvl
  have HN := hide hin
  clear hit ok hwf hvl hin
  obtain ⟨i0, hi, hz0, hz1, hz2⟩ := info_parts Tryz.info_value
  go_enter Tryz.func42, Tryz.ntmps42
  go_wp2_with fail
  refine (evitems_any _ xs _ vals _ (unhide HI) (unhide HK) (unhide HW) (unhide HV) (unhide HN)).mono ?_
  rintro e w1 ⟨rv, rs, rfl, hb1, hres, hsl⟩
  replace hsl := SlAt.of_owns hsl
  obtain ⟨so, sc, rfl⟩ := hsl.form
  have HB1 := hide hb1
  have HRES := hide hres
  have HSL := hide hsl
  have hrl : rs.length = xs.length := by rw [hres.1]; unfold resP; rw [resTo_len]; simp
  clear hb1 hres hsl
  go_wp2_with fail
  obtain ⟨its, hits⟩ : ∃ its, its = xs.map LItem.it := ⟨_, rfl⟩
  have HITS := hide hits
  go_loopg [5, 12] xs.length (fun g tv i wr => ∃ j : Nat, j ≤ xs.length ∧ g = xs.length - j ∧ i = .int .i64 (j : Int) ∧ Below w1.heap.size w1 wr ∧ wr.ownsRow w1.heap.size 51 2 tv (tabsTo its (resP its vals) j).length ((tabsTo its (resP its vals) j).flatMap vcells))
  case atStart => exact ⟨0, by omega, rfl, rfl, Below.refl _ _, World.ownsRow_nil _ _ _ _⟩
  case round =>
    obtain ⟨j, hj, hg, rfl, hb, hown⟩ := hrel
    have A : Aside (gk = xs.length - j ∧ Below w1.heap.size w1 wr ∧ wr.ownsRow w1.heap.size 51 2 u5 (tabsTo its (resP its vals) j).length ((tabsTo its (resP its vals) j).flatMap vcells)) := ⟨hg, hb, hown⟩
    have htl := tabsTo_len its (resP its vals) j
    clear hg hown
    by_cases hlt : j < xs.length
    · rcases (unhide HI).1.below (unhide HB1) with ⟨h0, _⟩ | ⟨g, cap', hv, hc, hm, hgl, hx⟩
      · omega
      simp only [Value.slice.injEq] at hv
      obtain ⟨rfl, _, rfl⟩ := hv
      have k1 : wr.cell? ⟨g, j * 7 + 1, none⟩ = some (.bool xs[j].it.isT) := by
        rw [hb.cell (p := ⟨g, j * 7 + 1, none⟩) hgl, hx _ (by omega)]
        exact flat_at itCells 7 (fun _ => rfl) xs j 1 hlt (by omega)
      have hjr : j < rs.length := by omega
      rcases (unhide HSL) with ⟨h0, _⟩ | ⟨g2, cap2, hv2, hc2, hm2, hgl2, hx2⟩
      · omega
      simp only [Value.slice.injEq] at hv2
      obtain ⟨rfl, _, rfl⟩ := hv2
      have key : ∀ i, i < 3 → wr.cell? ⟨g2, j * 3 + i, none⟩ = (rc3 rs[j])[i]? := fun i hi => by
        rw [hb.cell (p := ⟨g2, j * 3 + i, none⟩) hgl2, hx2 _ (by omega)]
        exact flat_at rc3 3 (fun _ => rfl) rs j i hjr hi
      have l0 := key 0 (by omega)
      have l1 := key 1 (by omega)
      have l2 := key 2 (by omega)
      simp only [rc3, List.getElem?_cons_zero, List.getElem?_cons_succ, Nat.add_zero] at l0 l1 l2
      have hpr : j < (resP (xs.map LItem.it) vals).length := by rw [← (unhide HRES).1]; exact hjr
      have hget := (unhide HRES).get hjr hpr
      obtain ⟨mo, mc, hmv⟩ := (SlAt.of_owns hget.2).form
      have hts : tabsTo its (resP its vals) (j + 1) = tabsTo its (resP its vals) j ++ (if xs[j].it.isT then [rs[j].1] else []) := by
        rw [tabsTo, hits, getD_at _ _ (by simpa using hlt), getD_at _ _ hpr, hget.1]
        simp
      rw [hmv] at l2
      generalize xs[j] = x at *
      generalize rs[j] = y at *
      generalize (resP (xs.map LItem.it) vals)[j].2.length = ml at *
      obtain ⟨⟨nm, bT, mk, po, cs, dr, rl⟩, cv, rv0, zv⟩ := x
      obtain ⟨⟨y0, y1⟩, yv⟩ := y
      simp only at k1 l0 l1 l2 hts
      have hjc : (j : Int) < xs.length := by omega
      have hjd : (j : Int) < rs.length := by omega
      have HTS := hide hts
      have k1' : (wr.alloc (.cells #[.int .i64 y0, .int .i64 y1, .slice mo ml mc] 123)).cell? ⟨g, j * 7 + 1, none⟩ = some (.bool bT) := by
        rw [← k1]
        exact ((Below.refl _ wr).alloc (Nat.le_refl _) _).cell (p := ⟨g, j * 7 + 1, none⟩) (Nat.lt_of_lt_of_le hgl hb.size)
      have HOW := hide (owns_below A.out.2.2 ((Below.refl _ wr).alloc (Nat.le_refl _) (.cells #[.int .i64 y0, .int .i64 y1, .slice mo ml mc] 123)))
      have HBW := hide (hb.alloc hb.size (.cells #[.int .i64 y0, .int .i64 y1, .slice mo ml mc] 123))
      have hsz : w1.heap.size ≤ wr.heap.size := hb.size
      clear key hx hx2 hc hm hc2 hm2 hgl hgl2 hb hts hget hmv hits k1
      cases bT with
      | true =>
        go_wp2_with (at_builtin; refine wpList_append_lies _ (by rfl) _ _ _ (by rfl) w1.heap.size 51 i0 _ 2 16 Tryz.underlying47 hi hz0 hz1 hz2 rfl (by decide) u5 (tabsTo its (resP its vals) j).length ((tabsTo its (resP its vals) j).flatMap vcells) (by rfl) ((unhide HOW).alloc _) ⟨wr.heap.size + 1, 0, none⟩ 1 1 [.int .i64 y0, .int .i64 y1] (by rfl) (by rfl) (World.news_of_block (cs := #[.int .i64 y0, .int .i64 y1]) (t := 51) (fr := (0, 0)) (by have := heap_alloc_new (wr.alloc (.cells #[.int .i64 y0, .int .i64 y1, .slice mo ml mc] 123)) (.cells #[.int .i64 y0, .int .i64 y1] 51); simpa using this)) (by simp [Value.oneCell']) (by decide) (by unfold maxLen; omega) (by omega) (by simp; omega) (wr.heap.size + 2) (by simp) ?_; intro gg cap w7 hown7 hgrow7 hat7 hlt7; have AB := hide (And.intro (below_grown ((unhide HBW).alloc (unhide HBW).size _) hgrow7 (fun q hq => ((unhide HOW).lt q hq).1)) hown7); clear hown7 hgrow7 hat7 hlt7)
        go_roundg (xs.length - (j + 1))
        case measure => have := A.out.1; omega
        case rel =>
          refine ⟨j + 1, by omega, rfl, by go_num, (unhide AB).1, ?_⟩
          rw [unhide HTS]
          simp only [if_true, List.length_append, List.length_singleton, List.flatMap_append]
          exact (unhide AB).2
      | false =>
        go_wp2_with fail
        go_roundg (xs.length - (j + 1))
        case measure => have := A.out.1; omega
        case rel =>
          refine ⟨j + 1, by omega, rfl, by go_num, unhide HBW, ?_⟩
          rw [unhide HTS]
          simpa using unhide HOW
    · have hje : j = xs.length := by omega
      have hjc : ¬ (j : Int) < xs.length := by omega
      have hjd : ¬ (j : Int) < rs.length := by omega
      have HO : Hid (wr.ownsRow w.heap.size 51 2 u5 (tabsP (xs.map LItem.it) vals).length ((tabsP (xs.map LItem.it) vals).flatMap vcells)) := hide (by
        have := owns_base A.out.2.2 (unhide HB1).size
        rw [hje, hits] at this
        unfold tabsP
        simpa using this)
      have HB2 := hide (below_after (unhide HB1) hb)
      clear hje hb hits
      go_wp2
      go_ret
      have ho := unhide HO
      exact ⟨_, rfl, unhide HB2, ho⟩

end Go.Proofs.YtdgbmcbkbkbdoaaGreatDoor
