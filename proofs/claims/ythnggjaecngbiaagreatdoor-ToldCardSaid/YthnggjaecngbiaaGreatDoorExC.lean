import Derived.Test.YthnggjaecngbiaaGreatDoorEvJ
namespace Go.Proofs.YthnggjaecngbiaaGreatDoor
open Go.RowKit

theorem foldl_max_bd : ∀ (l : List Int) (a : Int), -1000000 ≤ a ∧ a ≤ 1000000 → (∀ x ∈ l, -1000000 ≤ x ∧ x ≤ 1000000) → -1000000 ≤ l.foldl max a ∧ l.foldl max a ≤ 1000000
  | [], a, ha, _ => ha
  | x :: l, a, ha, h => by
    have h1 := h x (by simp)
    rw [List.foldl_cons]
    exact foldl_max_bd l (max a x) (by omega) (fun y hy => h y (by simp [hy]))
theorem decideP_bd {pol : Int} {l : List Int} (hl : l.length ≤ 8) (h : ∀ x ∈ l, -1000000 ≤ x ∧ x ≤ 1000000) : -8000000 ≤ (decideP pol l).n ∧ (decideP pol l).n ≤ 8000000 := by
  have h1 := foldl_bd l 0 h
  unfold decideP
  split
  · simp only; omega
  split
  · simp only; omega
  cases l with
  | nil => simp
  | cons x l =>
    have h2 := h x (by simp)
    have h3 := foldl_max_bd l x h2 (fun y hy => h y (by simp [hy]))
    simp only
    split
    · simp only; omega
    split
    · simp
    · simp only; omega
theorem res_bd {its : List PItem} (ok : OkPlan its) {vals : List Int} (hv : ∀ x ∈ vals, -1000000 ≤ x ∧ x ≤ 1000000) : ∀ j, j ≤ its.length → ∀ x ∈ resTo its vals j, (-8000000 ≤ x.1.n ∧ x.1.n ≤ 8000000) ∧ x.2.length ≤ 8 ∧ ∀ i ∈ x.2, i ≤ 8
  | 0, _ => by simp [resTo]
  | j + 1, hj => by
    intro x hx
    rw [resTo_succ vals (by omega), List.mem_append] at hx
    rcases hx with hx | hx
    · exact res_bd ok hv j (by omega) x hx
    · rw [List.mem_singleton] at hx
      rw [hx]
      split
      · have hm := List.getElem_mem (l := its) (n := j) (by omega)
        have h8 := ok.rlen _ hm
        have hnum := ok.num _ hm
        generalize its[j] = it at *
        have hl := metTo_len it.rules (colVals its ((resTo its vals j).map Prod.fst) it) it.rules.length
        have hlt := metTo_lt (rs := it.rules) (vs := colVals its ((resTo its vals j).map Prod.fst) it) (Nat.le_refl _)
        refine ⟨decideP_bd (by simp only [numsOf, List.length_map]; unfold metP; omega) (fun y hy => ?_), by unfold tableP metP; simp only; omega, fun i hi => by have := hlt i hi; omega⟩
        unfold numsOf at hy
        rw [List.mem_map] at hy
        obtain ⟨i, hi, rfl⟩ := hy
        have := hlt i hi
        simp only [numOf, List.getElem?_eq_getElem this]
        exact hnum _ (List.getElem_mem this)
      · refine ⟨?_, by simp, by simp⟩
        simp only
        rw [List.getD_eq_getElem?_getD]
        cases hq : vals[inputsTo its j]? with
        | none => simp
        | some y => have := hv y (List.mem_of_getElem? hq); simp only [Option.getD_some]; omega
theorem fits_bd {its : List PItem} {vals : List Int} (h : fitsP its vals = true) : vals.length = inputsP its ∧ ∀ x ∈ vals, -1000000 ≤ x ∧ x ≤ 1000000 := by
  unfold fitsP at h
  rw [Bool.and_eq_true] at h
  refine ⟨by simpa using h.1, fun x hx => ?_⟩
  have h2 := h.2
  rw [Bool.not_eq_true', List.any_eq_false] at h2
  have := h2 x hx
  unfold numBeyond at this
  simp at this
  omega
theorem WInv.drew {W0 : World} {b : Nat} {l : List UInt8} {w : World} (h : WInv W0 b l w) : WInv W0 b l w.drew := ⟨⟨h.bl.os, h.bl.tape, h.bl.output, h.bl.size, h.bl.block⟩, h.bd⟩
theorem owns_drew {w : World} {base : Nat} {e : TypeId} {size : Nat} {v : Value} {n : Nat} {xs : List Value} (h : w.ownsRow base e size v n xs) : w.drew.ownsRow base e size v n xs := h
theorem ResV.kept {W0 : World} {b : Nat} {l : List UInt8} {w w' : World} {base : Nat} {rs : List (PVal × Value)} {ps : List (PVal × List Nat)} (hw : WInv W0 b l w) (g : Lib.OthersKept 5 (some b) w w') (h : ResV base w rs ps) : ResV base w' rs ps :=
  ⟨h.1, fun x hx => ⟨(h.2 x hx).1, owns_kept hw g (by decide) (by decide) (h.2 x hx).2⟩⟩
theorem ResV.base {w : World} {base base' : Nat} {rs : List (PVal × Value)} {ps : List (PVal × List Nat)} (h : ResV base w rs ps) (hb : base' ≤ base) : ResV base' w rs ps :=
  ⟨h.1, fun x hx => ⟨(h.2 x hx).1, owns_base (h.2 x hx).2 hb⟩⟩

theorem lineOut_len {it : PItem} {lb clear : Nat} {r : PVal × List Nat} (hn : it.name.size ≤ 8) (h : -8000000 ≤ r.1.n ∧ r.1.n ≤ 8000000) (hl : r.2.length ≤ 8) (hi : ∀ i ∈ r.2, i ≤ 8) : (lineOut it lb clear r).length ≤ 1000 := by
  have h1 : it.name.data.toList.length ≤ 8 := by simpa using hn
  have h2 := shownOut_len (p := r.1) (by omega) (by omega)
  have h3 := rulesTold_len false r.2 (fun i hi' => by have := hi i hi'; omega)
  unfold lineOut knownOut
  simp only [List.length_append, List.length_cons, List.length_nil]
  split
  · simp only [List.length_append]
    split
    · simp only [List.length_append, List.length_cons, List.length_nil]; omega
    · simp only [List.length_nil]; omega
  · simp only [List.length_cons, List.length_nil]; omega
theorem OkPlan.nameLen {its : List PItem} (h : OkPlan its) : ∀ it ∈ its, it.name.size ≤ 8 := fun it hi => by
  have key : ∀ x : ByteArray, NameOK x → x.size ≤ 8 := fun x hx => by
    have := hx.1
    unfold isNameB at this
    simp only [Bool.and_eq_true, decide_eq_true_eq] at this
    have := this.2
    omega
  rcases h.can it hi with hc | hc
  · exact key _ hc.name
  · exact key _ hc.name
theorem toldTo_len {its : List PItem} (ok : OkPlan its) {vals : List Int} (hv : ∀ x ∈ vals, -1000000 ≤ x ∧ x ≤ 1000000) (clear : Nat) : ∀ j, j ≤ its.length → (toldTo its (labsP its) (resP its vals) clear j).length ≤ j * 1000
  | 0, _ => by simp [toldTo]
  | j + 1, hj => by
    have h1 := toldTo_len ok hv clear j (by omega)
    have hr : j < (resP its vals).length := by unfold resP; rw [resTo_len]; omega
    have hb := res_bd ok hv _ (Nat.le_refl _) (resP its vals)[j] (List.getElem_mem hr)
    rw [toldTo, List.length_append, getD_at its noItem (by omega), getD_at (resP its vals) _ hr]
    have := lineOut_len (it := its[j]) (lb := (labsP its).getD j 0) (clear := clear) (ok.nameLen _ (List.getElem_mem _)) hb.1 hb.2.1 hb.2.2
    omega

set_option maxRecDepth 100000 in
set_option maxHeartbeats 3200000 in
theorem explWrite_any (v : Value) (xs : List LItem) (clear : Nat) (vl : Value) (vals : List Int) (w : World) (hit : ItemsV w v xs) (ok : OkPlan (xs.map LItem.it)) (hwf : ∀ x ∈ xs, WfI x.it) (hvl : SlAt w 1 vl vals.length (ints vals)) (hfit : fitsP (xs.map LItem.it) vals = true) (hcl : clear ≤ 7) (ht : Tab w) :
    Calls Tryz.prog 45 #[v, .int .i64 (clear : Int), vl] w fun e w' => e = .returned (.string ⟨(explainP (xs.map LItem.it) clear vals).toArray⟩) ∧ Below w.heap.size w w' := by
  obtain ⟨io, ic, rfl⟩ := hit.1.form
  obtain ⟨vo, vc, rfl⟩ := hvl.form
  have hlen : xs.length ≤ 12 := by have := ok.len; simpa using this
  have hw0 : WInv w w.heap.size [] (w.alloc (.cells #[.pointer none, .slice none 0 0] 116)) :=
    ⟨(Below.refl _ w).alloc (Nat.le_refl _) _, Or.inl ⟨Nat.le_refl _, .slice none 0 0, alloc_last w _, World.ownsRowF_nil _ _ _ _, by simp [Value.ownBlock]⟩⟩
  have HW0 := hide hw0
  have HI := hide hit
  have HK := hide ok
  have HWF := hide hwf
  have HV := hide hvl
  have HF := hide (fits_bd hfit)
  have HT := hide ht
  clear hit ok hwf hvl hfit hw0 ht
  go_enter Tryz.func45, Tryz.ntmps45
  go_wp2_with fail
  refine (labels_any _ xs _ ((unhide HI).below (unhide HW0).bl) (unhide HK)).mono ?_
  rintro e w1 ⟨lv, rfl, hb1, hlo⟩
  obtain ⟨lo, lc, rfl⟩ := (SlAt.of_owns hlo).form
  have HW1 := hide ((unhide HW0).below hb1)
  have HL1 := hide (owns_base hlo (base' := w.heap.size) (unhide HW0).bl.size)
  clear hb1 hlo
  go_wp2_with fail
  refine (evitems_any _ xs _ vals _ ((unhide HI).below (unhide HW1).bl) (unhide HK) (unhide HWF) ((unhide HV).below (unhide HW1).bl) (unhide HF).1).mono ?_
  rintro e w2 ⟨rv, rs, rfl, hb2, hres, hro⟩
  obtain ⟨so, sc, rfl⟩ := (SlAt.of_owns hro).form
  have HW2 := hide ((unhide HW1).below hb2)
  have HL2 := hide (owns_below (unhide HL1) hb2)
  have HR2 := hide (hres.base (base' := w.heap.size) (unhide HW1).bl.size)
  have HS2 := hide (owns_base hro (base' := w.heap.size) (unhide HW1).bl.size)
  have hrl : rs.length = xs.length := by rw [hres.1]; unfold resP; rw [resTo_len]; simp
  have HRL := hide hrl
  clear hb2 hres hro hrl
  go_wp2_with fail
  obtain ⟨its, hits⟩ : ∃ its, its = xs.map LItem.it := ⟨_, rfl⟩
  have HITS := hide hits
  have hll : (labsP (xs.map LItem.it)).length = xs.length := by unfold labsP; rw [labsTo_len]; simp
  have HLL := hide hll
  clear hits hll
  go_loopg [17] rs.length (fun g i wr => ∃ j : Nat, j ≤ rs.length ∧ g = rs.length - j ∧ i = .int .i64 (j : Int) ∧ WInv w w.heap.size (toldTo its (labsP its) (resP its vals) clear j) wr ∧ wr.ownsRow w.heap.size 3 1 (.slice lo (labsP (xs.map LItem.it)).length lc) (labsP (xs.map LItem.it)).length (nats (labsP (xs.map LItem.it))) ∧ ResV w.heap.size wr rs (resP (xs.map LItem.it) vals) ∧ wr.ownsRow w.heap.size 128 3 (.slice so rs.length sc) rs.length (rs.flatMap rc3))
  case atStart => exact ⟨0, by omega, rfl, rfl, by simpa [toldTo] using unhide HW2, unhide HL2, unhide HR2, unhide HS2⟩
  case round =>
    obtain ⟨j, hj, hg, rfl, hwi, hlw, hrv, hro⟩ := hrel
    have A : Aside (gk = rs.length - j ∧ WInv w w.heap.size (toldTo its (labsP its) (resP its vals) clear j) wr) := ⟨hg, hwi⟩
    have HLW := hide hlw
    have HRV := hide hrv
    have HRO := hide hro
    have htl := toldTo_len (unhide HK) (unhide HF).2 clear j
    rw [← unhide HITS] at htl
    have htl2 : (toldTo its (labsP its) (resP its vals) clear j).length ≤ 12000 := by
      have hrx := unhide HRL
      have := htl (by rw [unhide HITS, List.length_map]; omega); omega
    clear hg htl
    by_cases hlt : j < rs.length
    · have hltx : j < xs.length := by have := unhide HRL; omega
      have hltl : j < (labsP (xs.map LItem.it)).length := by rw [unhide HLL]; exact hltx
      have hpr : j < (resP (xs.map LItem.it) vals).length := by rw [← hrv.1]; exact hlt
      -- the result
      rcases SlAt.of_owns hro with ⟨h0, _⟩ | ⟨g2, cap2, hv2, hc2, hm2, hgl2, hx2⟩
      · omega
      simp only [Value.slice.injEq] at hv2
      obtain ⟨rfl, _, rfl⟩ := hv2
      have key : ∀ i, i < 3 → wr.cell? ⟨g2, j * 3 + i, none⟩ = (rc3 rs[j])[i]? := fun i hi => by
        rw [hx2 _ (by omega)]
        exact flat_at rc3 3 (fun _ => rfl) rs j i hlt hi
      have l0 := key 0 (by omega)
      have l1 := key 1 (by omega)
      have l2 := key 2 (by omega)
      simp only [rc3, List.getElem?_cons_zero, List.getElem?_cons_succ, Nat.add_zero] at l0 l1 l2
      have hget := hrv.get hlt hpr
      obtain ⟨mo, mc, hmv⟩ := (SlAt.of_owns hget.2).form
      have hbd := res_bd (unhide HK) (unhide HF).2 _ (Nat.le_refl _) (resP (xs.map LItem.it) vals)[j] (List.getElem_mem hpr)
      have hstep : toldTo its (labsP its) (resP its vals) clear (j + 1) = toldTo its (labsP its) (resP its vals) clear j ++ lineOut xs[j].it (labsP (xs.map LItem.it))[j] clear (rs[j].1, (resP (xs.map LItem.it) vals)[j].2) := by
        rw [toldTo, unhide HITS, getD_at _ _ (by simpa using hltx), getD_at _ _ hltl, getD_at _ _ hpr, hget.1]
        simp
      have h7 : (labsP (xs.map LItem.it))[j] ≤ 7 := labsTo_le (fun it hi => ((unhide HK).marks it hi).1) _ _ (List.getElem_mem hltl)
      -- the label
      rcases SlAt.of_owns hlw with ⟨h0, _⟩ | ⟨g3, cap3, hv3, hc3, hm3, hgl3, hx3⟩
      · omega
      simp only [Value.slice.injEq] at hv3
      obtain ⟨rfl, _, rfl⟩ := hv3
      -- the item
      have hxi := (unhide HI).2 xs[j] (List.getElem_mem hltx)
      have hwx := (unhide HWF) xs[j] (List.getElem_mem hltx)
      rcases (unhide HI).1 with ⟨h0, _⟩ | ⟨g, cap', hv, hc, hm, hgl, hx⟩
      · omega
      simp only [Value.slice.injEq] at hv
      obtain ⟨rfl, _, rfl⟩ := hv
      have ikey : ∀ (w' : World), Below w.heap.size w w' → ∀ i, i < 7 → w'.cell? ⟨g, j * 7 + i, none⟩ = (itCells xs[j])[i]? := fun w' hb' i hi => by
        rw [hb'.cell (p := ⟨g, j * 7 + i, none⟩) hgl, hx _ (by omega)]
        exact flat_at itCells 7 (fun _ => rfl) xs j i hltx hi
      rw [hmv] at l2
      have hown := hget.2
      rw [hmv] at hown
      have hlab : ∀ w' : World, w'.ownsRow w.heap.size 3 1 (.slice (some ⟨g3, 0, none⟩) (labsP (xs.map LItem.it)).length lc) (labsP (xs.map LItem.it)).length (nats (labsP (xs.map LItem.it))) → w'.cell? ⟨g3, j, none⟩ = some (.int .i64 ((labsP (xs.map LItem.it))[j] : Int)) := fun w' ho => by
        rcases SlAt.of_owns ho with ⟨h0, _⟩ | ⟨g4, cap4, hv4, _, _, _, hx4⟩
        · omega
        simp only [Value.slice.injEq, Option.some.injEq, Addr.mk.injEq] at hv4
        obtain ⟨⟨rfl, _⟩, _, rfl⟩ := hv4
        rw [hx4 j (by omega)]
        simp [nats, hltl]
      generalize xs[j] = x at *
      generalize rs[j] = y at *
      generalize (labsP (xs.map LItem.it))[j] = lb at *
      generalize (resP (xs.map LItem.it) vals)[j] = q at *
      obtain ⟨co, cc, hcv⟩ := hxi.1.form
      obtain ⟨ro, rc, hrv2⟩ := hxi.2.2.1.form
      obtain ⟨it, cv, rv0, zv⟩ := x
      obtain ⟨⟨y0, y1⟩, yv⟩ := y
      obtain ⟨q0, qm⟩ := q
      simp only at hcv hrv2 l0 l1 l2 hbd hstep hown hwx hget
      subst hcv hrv2
      have hq := hget.1
      subst hq
      simp only at hbd
      have HST := hide hstep
      have HIK := hide ikey
      have HLAB := hide hlab
      have HOWN := hide hown
      have hjx : (j : Int) < xs.length := by omega
      have hjl : (j : Int) < (labsP (xs.map LItem.it)).length := by omega
      have hjr : (j : Int) < rs.length := by omega
      have hb1 : Below wr.heap.size wr (wr.alloc (.cells #[.int .i64 y0, .int .i64 y1, .slice mo qm.length mc] 128)) := (Below.refl _ wr).alloc (Nat.le_refl _) _
      have hN1 : Box wr.heap.size #[.int .i64 y0, .int .i64 y1, .slice mo qm.length mc] 128 (wr.alloc (.cells #[.int .i64 y0, .int .i64 y1, .slice mo qm.length mc] 128)) := alloc_last wr _
      have hw1 := hwi.below hb1
      have k0 := ikey _ hw1.bl 0 (by omega)
      simp only [itCells, icells, List.getElem?_cons_zero, Nat.add_zero] at k0
      have HWa := hide hw1
      have HLa := hide (owns_below hlw hb1)
      have HRa := hide (hrv.below hb1)
      have HSa := hide (owns_below hro hb1)
      have HMa := hide (owns_below hown hb1)
      have HNa := hide hN1
      have hwib := hwi.blk
      have hne : wr.heap.size ≠ w.heap.size := by omega
      have hnm := hwx.name
      clear key hx2 hc2 hm2 hgl2 hx3 hc3 hm3 hgl3 hx hc hm hgl hwi hlw hrv hro hxi hmv hget hstep ikey hlab hown hb1 hN1 hw1
      go_wp2_with fail
      refine (ws_any _ (unhide HWa) (by omega) (by omega)).mono ?_
      rintro e wb ⟨rfl, hwb, hob⟩
      have HWb := hide hwb
      have HLb := hide (owns_kept (unhide HWa) hob (by decide) (by decide) (unhide HLa))
      have HRb := hide ((unhide HRa).kept (unhide HWa) hob)
      have HSb := hide (owns_kept (unhide HWa) hob (by decide) (by decide) (unhide HSa))
      have HMb := hide (owns_kept (unhide HWa) hob (by decide) (by decide) (unhide HMa))
      have HNb := hide ((unhide HNa).kept hob hne (by decide))
      clear hwb hob HWa HLa HRa HSa HMa HNa k0
      go_wp2_with fail
      refine (wb_any _ (unhide HWb) (by simp; omega) (by simp) (by simp)).mono ?_
      rintro e wc ⟨rfl, hwc, hoc⟩
      have HWc := hide hwc
      have hLc := owns_kept (unhide HWb) hoc (by decide) (by decide) (unhide HLb)
      have lab := unhide HLAB _ hLc
      have HLc := hide hLc
      have HRc := hide ((unhide HRb).kept (unhide HWb) hoc)
      have HSc := hide (owns_kept (unhide HWb) hoc (by decide) (by decide) (unhide HSb))
      have HMc := hide (owns_kept (unhide HWb) hoc (by decide) (by decide) (unhide HMb))
      have hNc := (unhide HNb).kept hoc hne (by decide)
      have HNc := hide hNc
      obtain ⟨⟨n0, n1, n2⟩, _⟩ := box3 hNc
      have hsN := lt_of_block hNc
      have i0 := unhide HIK _ hwc.bl 0 (by omega)
      have i1 := unhide HIK _ hwc.bl 1 (by omega)
      have i2 := unhide HIK _ hwc.bl 2 (by omega)
      have i3 := unhide HIK _ hwc.bl 3 (by omega)
      have i4 := unhide HIK _ hwc.bl 4 (by omega)
      have i5 := unhide HIK _ hwc.bl 5 (by omega)
      have i6 := unhide HIK _ hwc.bl 6 (by omega)
      simp only [itCells, icells, List.getElem?_cons_zero, List.getElem?_cons_succ, Nat.add_zero] at i0 i1 i2 i3 i4 i5 i6
      clear hwc hoc hLc hNc HWb HLb HRb HSb HMb HNb
      have hbits := bits_not7 h7 hcl
      cases hs : seenB lb clear with
      | true =>
        have hsb : ((((lb &&& (7 - clear) : Nat) : Int)) == 0) = true := by unfold seenB at hs; simp at hs ⊢; omega
        have HSN := hide hs
        clear hs
        go_wp2_with fail
        have hcall := writeKnown_any (W0 := w) (b := w.heap.size) (w := wc.drew) it co ro it.cols.length cc it.rules.length rc ⟨y0, y1⟩ qm mo mc (unhide HWc).drew (by simp; omega) (unhide HT) (owns_drew (unhide HMc)) (by omega) (fun i hi => by have := hbd.2.2 i hi; omega) (by simp only; omega) (by simp only; omega)
        have HCALL := hide hcall
        clear hcall
        go_region_with (go_at_call 71; refine (unhide HCALL).mono ?_; rintro e wd ⟨rfl, hwd, hod⟩; have HWd := hide hwd; have HLd := hide (owns_kept (w := wc) (unhide HWc) hod (by decide) (by decide) (unhide HLc)); have HRd := hide (ResV.kept (w := wc) (unhide HWc) hod (unhide HRc)); have HSd := hide (owns_kept (w := wc) (unhide HWc) hod (by decide) (by decide) (unhide HSc)); clear hwd hod)
        all_goals
          have hkl : (knownOut it (⟨y0, y1⟩, qm)).length ≤ 1000 := by
            have := lineOut_len (it := it) (lb := 0) (clear := 0) (r := (⟨y0, y1⟩, qm)) hnm hbd.1 hbd.2.1 hbd.2.2
            unfold lineOut seenB at this
            simp at this
            omega
          go_wp2_with fail
          refine (wb_any _ (unhide HWd) (by simp; omega) (by simp) (by simp)).mono ?_
          rintro e we ⟨rfl, hwe, hoe⟩
          have HWe := hide hwe
          have HLe := hide (owns_kept (unhide HWd) hoe (by decide) (by decide) (unhide HLd))
          have HRe := hide ((unhide HRd).kept (unhide HWd) hoe)
          have HSe := hide (owns_kept (unhide HWd) hoe (by decide) (by decide) (unhide HSd))
          clear hwe hoe
          go_wp2
          go_roundg (rs.length - (j + 1))
          case measure => have := A.out.1; omega
          case rel =>
            refine ⟨j + 1, by omega, rfl, by go_num, ?_, unhide HLe, unhide HRe, unhide HSe⟩
            rw [unhide HST]
            have := unhide HWe
            simpa [lineOut, unhide HSN, u8] using this
      | false =>
        have hsb : ((((lb &&& (7 - clear) : Nat) : Int)) == 0) = false := by unfold seenB at hs; simp at hs ⊢; omega
        have HSN := hide hs
        clear hs
        go_wp2_with fail
        refine (wb_any _ (unhide HWc) (by simp; omega) (by simp) (by simp)).mono ?_
        rintro e wd ⟨rfl, hwd, hod⟩
        have HWd := hide hwd
        have HLd := hide (owns_kept (unhide HWc) hod (by decide) (by decide) (unhide HLc))
        have HRd := hide ((unhide HRc).kept (unhide HWc) hod)
        have HSd := hide (owns_kept (unhide HWc) hod (by decide) (by decide) (unhide HSc))
        clear hwd hod
        go_wp2_with fail
        refine (wb_any _ (unhide HWd) (by simp; omega) (by simp) (by simp)).mono ?_
        rintro e we ⟨rfl, hwe, hoe⟩
        have HWe := hide hwe
        have HLe := hide (owns_kept (unhide HWd) hoe (by decide) (by decide) (unhide HLd))
        have HRe := hide ((unhide HRd).kept (unhide HWd) hoe)
        have HSe := hide (owns_kept (unhide HWd) hoe (by decide) (by decide) (unhide HSd))
        clear hwe hoe
        go_wp2
        go_roundg (rs.length - (j + 1))
        case measure => have := A.out.1; omega
        case rel =>
          refine ⟨j + 1, by omega, rfl, by go_num, ?_, unhide HLe, unhide HRe, unhide HSe⟩
          rw [unhide HST]
          have := unhide HWe
          simpa [lineOut, unhide HSN, u8] using this
    · have hje : j = rs.length := by omega
      have HJ : Hid (toldTo its (labsP its) (resP its vals) clear j = explainP (xs.map LItem.it) clear vals) := hide (by
        rw [unhide HITS, hje]; unfold explainP; rw [List.length_map, unhide HRL])
      have hjc : ¬ (j : Int) < rs.length := by omega
      clear hje hwi hlw hrv hro
      go_wp2_with fail
      refine (Tryz.Builder_String_any_k w.heap.size w.heap.size _ _ A.out.2.bd A.out.2.bl.size).mono ?_
      rintro e w9 ⟨rfl, _, hb9, _⟩
      have HB := hide (A.out.2.bl.trans hb9)
      clear hb9
      go_wp2
      go_ret
      refine ⟨?_, unhide HB⟩
      rw [unhide HJ]
      rfl
end Go.Proofs.YthnggjaecngbiaaGreatDoor
