import Derived.Test.YthnggjaecngbiaaGreatDoorEvJ
import Derived.Test.YthnggjaecngbiaaGreatDoorMdB
import Derived.Test.YthnggjaecngbiaaGreatDoorEvF
import Derived.Test.YthnggjaecngbiaaGreatDoorLbA
import Derived.Test.YthnggjaecngbiaaGreatDoorRows
import Derived.Test.YthnggjaecngbiaaGreatDoorRdD
namespace Go.Proofs.YthnggjaecngbiaaGreatDoor
open Go.RowKit
theorem foldl_max_bd : ∀ (l : List Int) (a : Int), -1000000 ≤ a ∧ a ≤ 1000000 → (∀ x ∈ l, -1000000 ≤ x ∧ x ≤ 1000000) → -1000000 ≤ l.foldl max a ∧ l.foldl max a ≤ 1000000
 | [], a, ha, _ => ha
 | x :: l, a, ha, h => by
  have h1 := h x (by simp)
  rw [List.foldl_cons]
  exact foldl_max_bd l (max a x) (by omega) (fun y hy => h y (by simp [hy]))
theorem decideP_bd {pol : Int} {l : List Int} (hl : l.length ≤ 8) (h : ∀ x ∈ l, -1000000 ≤ x ∧ x ≤ 1000000) : -8000000 ≤ (decideP pol l).n ∧ (decideP pol l).n ≤ 8000000 := by
 have h1 := foldl_bd l 0 h
 unfold decideP
 split
 ·simp only; omega
 split
 ·simp only; omega
 cases l with
 | nil => simp
 | cons x l =>
  have h2 := h x (by simp)
  have h3 := foldl_max_bd l x h2 (fun y hy => h y (by simp [hy]))
  simp only
  split
  ·simp only; omega
  split
  ·simp
  ·simp only; omega
theorem res_bd {its : List PItem} (ok : OkPlan its) {vals : List Int} (hv : ∀ x ∈ vals, -1000000 ≤ x ∧ x ≤ 1000000) : ∀ j, j ≤ its.length → ∀ x ∈ resTo its vals j, (-8000000 ≤ x.1.n ∧ x.1.n ≤ 8000000) ∧ x.2.length ≤ 8 ∧ ∀ i ∈ x.2, i ≤ 8
 | 0, _ => by simp [resTo]
 | j + 1, hj => by
  intro x hx
  rw [resTo_succ vals (by omega), List.mem_append] at hx
  rcases hx with hx | hx
  ·exact res_bd ok hv j (by omega) x hx
  ·rw [List.mem_singleton] at hx
   rw [hx]
   split
   ·have hm := List.getElem_mem (l := its) (n := j) (by omega)
    have h8 := ok.rlen _ hm
    have hnum := ok.num _ hm
    generalize its[j] = it at *
    have hl := metTo_len it.rules (colVals its ((resTo its vals j).map Prod.fst) it) it.rules.length
    have hlt := metTo_lt (rs := it.rules) (vs := colVals its ((resTo its vals j).map Prod.fst) it) (Nat.le_refl _)
    refine ⟨decideP_bd (by simp only [numsOf, List.length_map]; unfold metP; omega) (fun y hy => ?_), by unfold tableP metP; simp only; omega, fun i hi => by have := hlt i hi; omega⟩
    unfold numsOf at hy
    rw [List.mem_map] at hy
    obtain ⟨i, hi, rfl⟩ := hy
    have := hlt i hi
    simp only [numOf, List.getElem?_eq_getElem this]
    exact hnum _ (List.getElem_mem this)
   ·refine ⟨?_, by simp, by simp⟩
    simp only
    rw [List.getD_eq_getElem?_getD]
    cases hq : vals[inputsTo its j]? with
    | none => simp
    | some y => have := hv y (List.mem_of_getElem? hq); simp only [Option.getD_some]; omega
theorem fits_bd {its : List PItem} {vals : List Int} (h : fitsP its vals = true) : vals.length = inputsP its ∧ ∀ x ∈ vals, -1000000 ≤ x ∧ x ≤ 1000000 := by
 unfold fitsP at h
 rw [Bool.and_eq_true] at h
 refine ⟨by simpa using h.1, fun x hx => ?_⟩
 have h2 := h.2
 rw [Bool.not_eq_true', List.any_eq_false] at h2
 have := h2 x hx
 unfold numBeyond at this
 simp at this
 omega
theorem WInv.drew {W0 : World} {b : Nat} {l : List UInt8} {w : World} (h : WInv W0 b l w) : WInv W0 b l w.drew := ⟨⟨h.bl.os, h.bl.tape, h.bl.output, h.bl.size, h.bl.block⟩, h.bd⟩
theorem owns_drew {w : World} {base : Nat} {e : TypeId} {size : Nat} {v : Value} {n : Nat} {xs : List Value} (h : w.ownsRow base e size v n xs) : w.drew.ownsRow base e size v n xs := h
theorem ResV.kept {W0 : World} {b : Nat} {l : List UInt8} {w w' : World} {base : Nat} {rs : List (PVal × Value)} {ps : List (PVal × List Nat)} (hw : WInv W0 b l w) (g : Lib.OthersKept 5 (some b) w w') (h : ResV base w rs ps) : ResV base w' rs ps :=
 ⟨h.1, fun x hx => ⟨(h.2 x hx).1, owns_kept hw g (by decide) (by decide) (h.2 x hx).2⟩⟩
theorem ResV.base {w : World} {base base' : Nat} {rs : List (PVal × Value)} {ps : List (PVal × List Nat)} (h : ResV base w rs ps) (hb : base' ≤ base) : ResV base' w rs ps :=
 ⟨h.1, fun x hx => ⟨(h.2 x hx).1, owns_base (h.2 x hx).2 hb⟩⟩
theorem lineOut_len {it : PItem} {lb clear : Nat} {r : PVal × List Nat} (hn : it.name.size ≤ 8) (h : -8000000 ≤ r.1.n ∧ r.1.n ≤ 8000000) (hl : r.2.length ≤ 8) (hi : ∀ i ∈ r.2, i ≤ 8) : (lineOut it lb clear r).length ≤ 1000 := by
 have h1 : it.name.data.toList.length ≤ 8 := by simpa using hn
 have h2 := shownOut_len (p := r.1) (by omega) (by omega)
 have h3 := rulesTold_len false r.2 (fun i hi' => by have := hi i hi'; omega)
 unfold lineOut knownOut
 simp only [List.length_append, List.length_cons, List.length_nil]
 split
 ·simp only [List.length_append]
  split
  ·simp only [List.length_append, List.length_cons, List.length_nil]; omega
  ·simp only [List.length_nil]; omega
 ·simp only [List.length_cons, List.length_nil]; omega
theorem OkPlan.nameLen {its : List PItem} (h : OkPlan its) : ∀ it ∈ its, it.name.size ≤ 8 := fun it hi => by
 have key : ∀ x : ByteArray, NameOK x → x.size ≤ 8 := fun x hx => by
  have := hx.1
  unfold isNameB at this
  simp only [Bool.and_eq_true, decide_eq_true_eq] at this
  have := this.2
  omega
 rcases h.can it hi with hc | hc
 ·exact key _ hc.name
 ·exact key _ hc.name
theorem toldTo_len {its : List PItem} (ok : OkPlan its) {vals : List Int} (hv : ∀ x ∈ vals, -1000000 ≤ x ∧ x ≤ 1000000) (clear : Nat) : ∀ j, j ≤ its.length → (toldTo its (labsP its) (resP its vals) clear j).length ≤ j * 1000
 | 0, _ => by simp [toldTo]
 | j + 1, hj => by
  have h1 := toldTo_len ok hv clear j (by omega)
  have hr : j < (resP its vals).length := by unfold resP; rw [resTo_len]; omega
  have hb := res_bd ok hv _ (Nat.le_refl _) (resP its vals)[j] (List.getElem_mem hr)
  rw [toldTo, List.length_append, getD_at its noItem (by omega), getD_at (resP its vals) _ hr]
  have := lineOut_len (it := its[j]) (lb := (labsP its).getD j 0) (clear := clear) (ok.nameLen _ (List.getElem_mem _)) hb.1 hb.2.1 hb.2.2
  omega
set_option maxRecDepth 100000 in
set_option maxHeartbeats 3200000 in
theorem explWrite_any (v : Value) (xs : List LItem) (clear : Nat) (vl : Value) (vals : List Int) (w : World) (hit : ItemsV w v xs) (ok : OkPlan (xs.map LItem.it)) (hwf : ∀ x ∈ xs, WfI x.it) (hvl : SlAt w 1 vl vals.length (ints vals)) (hfit : fitsP (xs.map LItem.it) vals = true) (hcl : clear ≤ 7) (ht : Tab w) :
  Calls Tryz.prog 45 #[v, .int .i64 (clear : Int), vl] w fun e w' => e = .returned (.string ⟨(explainP (xs.map LItem.it) clear vals).toArray⟩) ∧ Below w.heap.size w w' := by
 obtain ⟨io, ic, rfl⟩ := hit.1.form
 obtain ⟨vo, vc, rfl⟩ := hvl.form
 have hlen : xs.length ≤ 12 := by have := ok.len; simpa using this
 have hw0 : WInv w w.heap.size [] (w.alloc (.cells #[.pointer none, .slice none 0 0] 116)) :=
  ⟨(Below.refl _ w).alloc (Nat.le_refl _) _, Or.inl ⟨Nat.le_refl _, .slice none 0 0, alloc_last w _, World.ownsRowF_nil _ _ _ _, by simp [Value.ownBlock]⟩⟩
 have HW0 := hide hw0
 have HI := hide hit
 have HK := hide ok
 have HWF := hide hwf
 have HV := hide hvl
 have HF := hide (fits_bd hfit)
 have HT := hide ht
 clear hit ok hwf hvl hfit hw0 ht
 go_enter Tryz.func45, Tryz.ntmps45
 go_wp2_with fail
 refine (labels_any _ xs _ ((uh HI).below (uh HW0).bl) (uh HK)).mono ?_
 rintro e w1 ⟨lv, rfl, hb1, hlo⟩
 obtain ⟨lo, lc, rfl⟩ := (SlAt.of_owns hlo).form
 have HW1 := hide ((uh HW0).below hb1)
 have HL1 := hide (owns_base hlo (base' := w.heap.size) (uh HW0).bl.size)
 clear hb1 hlo
 go_wp2_with fail
 refine (evitems_any _ xs _ vals _ ((uh HI).below (uh HW1).bl) (uh HK) (uh HWF) ((uh HV).below (uh HW1).bl) (uh HF).1).mono ?_
 rintro e w2 ⟨rv, rs, rfl, hb2, hres, hro⟩
 obtain ⟨so, sc, rfl⟩ := (SlAt.of_owns hro).form
 have HW2 := hide ((uh HW1).below hb2)
 have HL2 := hide (owns_below (uh HL1) hb2)
 have HR2 := hide (hres.base (base' := w.heap.size) (uh HW1).bl.size)
 have HS2 := hide (owns_base hro (base' := w.heap.size) (uh HW1).bl.size)
 have hrl : rs.length = xs.length := by rw [hres.1]; unfold resP; rw [resTo_len]; simp
 have HRL := hide hrl
 clear hb2 hres hro hrl
 go_wp2_with fail
 obtain ⟨its, hits⟩ : ∃ its, its = xs.map LItem.it := ⟨_, rfl⟩
 have HITS := hide hits
 have hll : (labsP (xs.map LItem.it)).length = xs.length := by unfold labsP; rw [labsTo_len]; simp
 have HLL := hide hll
 clear hits hll
 go_loopg [17] rs.length (fun g i wr => ∃ j : Nat, j ≤ rs.length ∧ g = rs.length - j ∧ i = .int .i64 (j : Int) ∧ WInv w w.heap.size (toldTo its (labsP its) (resP its vals) clear j) wr ∧ wr.ownsRow w.heap.size 3 1 (.slice lo (labsP (xs.map LItem.it)).length lc) (labsP (xs.map LItem.it)).length (nats (labsP (xs.map LItem.it))) ∧ ResV w.heap.size wr rs (resP (xs.map LItem.it) vals) ∧ wr.ownsRow w.heap.size 128 3 (.slice so rs.length sc) rs.length (rs.flatMap rc3))
 case atStart => exact ⟨0, by omega, rfl, rfl, by simpa [toldTo] using uh HW2, uh HL2, uh HR2, uh HS2⟩
 case round =>
  obtain ⟨j, hj, hg, rfl, hwi, hlw, hrv, hro⟩ := hrel
  have A : Aside (gk = rs.length - j ∧ WInv w w.heap.size (toldTo its (labsP its) (resP its vals) clear j) wr) := ⟨hg, hwi⟩
  have HLW := hide hlw
  have HRV := hide hrv
  have HRO := hide hro
  have htl := toldTo_len (uh HK) (uh HF).2 clear j
  rw [← uh HITS] at htl
  have htl2 : (toldTo its (labsP its) (resP its vals) clear j).length ≤ 12000 := by
   have hrx := uh HRL
   have := htl (by rw [uh HITS, List.length_map]; omega); omega
  clear hg htl
  by_cases hlt : j < rs.length
  ·have hltx : j < xs.length := by have := uh HRL; omega
   have hltl : j < (labsP (xs.map LItem.it)).length := by rw [uh HLL]; exact hltx
   have hpr : j < (resP (xs.map LItem.it) vals).length := by rw [← hrv.1]; exact hlt
   -- the result
   rcases SlAt.of_owns hro with ⟨h0, _⟩ | ⟨g2, cap2, hv2, hc2, hm2, hgl2, hx2⟩
   ·omega
   simp only [Value.slice.injEq] at hv2
   obtain ⟨rfl, _, rfl⟩ := hv2
   have key : ∀ i, i < 3 → wr.cell? ⟨g2, j * 3 + i, none⟩ = (rc3 rs[j])[i]? := fun i hi => by
    rw [hx2 _ (by omega)]
    exact flat_at rc3 3 (fun _ => rfl) rs j i hlt hi
   have l0 := key 0 (by omega)
   have l1 := key 1 (by omega)
   have l2 := key 2 (by omega)
   simp only [rc3, List.getElem?_cons_zero, List.getElem?_cons_succ, Nat.add_zero] at l0 l1 l2
   have hget := hrv.get hlt hpr
   obtain ⟨mo, mc, hmv⟩ := (SlAt.of_owns hget.2).form
   have hbd := res_bd (uh HK) (uh HF).2 _ (Nat.le_refl _) (resP (xs.map LItem.it) vals)[j] (List.getElem_mem hpr)
   have hstep : toldTo its (labsP its) (resP its vals) clear (j + 1) = toldTo its (labsP its) (resP its vals) clear j ++ lineOut xs[j].it (labsP (xs.map LItem.it))[j] clear (rs[j].1, (resP (xs.map LItem.it) vals)[j].2) := by
    rw [toldTo, uh HITS, getD_at _ _ (by simpa using hltx), getD_at _ _ hltl, getD_at _ _ hpr, hget.1]
    simp
   have h7 : (labsP (xs.map LItem.it))[j] ≤ 7 := labsTo_le (fun it hi => ((uh HK).marks it hi).1) _ _ (List.getElem_mem hltl)
   -- the label
   rcases SlAt.of_owns hlw with ⟨h0, _⟩ | ⟨g3, cap3, hv3, hc3, hm3, hgl3, hx3⟩
   ·omega
   simp only [Value.slice.injEq] at hv3
   obtain ⟨rfl, _, rfl⟩ := hv3
   -- the item
   have hxi := (uh HI).2 xs[j] (List.getElem_mem hltx)
   have hwx := (uh HWF) xs[j] (List.getElem_mem hltx)
   rcases (uh HI).1 with ⟨h0, _⟩ | ⟨g, cap', hv, hc, hm, hgl, hx⟩
   ·omega
   simp only [Value.slice.injEq] at hv
   obtain ⟨rfl, _, rfl⟩ := hv
   have ikey : ∀ (w' : World), Below w.heap.size w w' → ∀ i, i < 7 → w'.cell? ⟨g, j * 7 + i, none⟩ = (itCells xs[j])[i]? := fun w' hb' i hi => by
    rw [hb'.cell (p := ⟨g, j * 7 + i, none⟩) hgl, hx _ (by omega)]
    exact flat_at itCells 7 (fun _ => rfl) xs j i hltx hi
   rw [hmv] at l2
   have hown := hget.2
   rw [hmv] at hown
   have hlab : ∀ w' : World, w'.ownsRow w.heap.size 3 1 (.slice (some ⟨g3, 0, none⟩) (labsP (xs.map LItem.it)).length lc) (labsP (xs.map LItem.it)).length (nats (labsP (xs.map LItem.it))) → w'.cell? ⟨g3, j, none⟩ = some (.int .i64 ((labsP (xs.map LItem.it))[j] : Int)) := fun w' ho => by
    rcases SlAt.of_owns ho with ⟨h0, _⟩ | ⟨g4, cap4, hv4, _, _, _, hx4⟩
    ·omega
    simp only [Value.slice.injEq, Option.some.injEq, Addr.mk.injEq] at hv4
    obtain ⟨⟨rfl, _⟩, _, rfl⟩ := hv4
    rw [hx4 j (by omega)]
    simp [nats, hltl]
   generalize xs[j] = x at *
   generalize rs[j] = y at *
   generalize (labsP (xs.map LItem.it))[j] = lb at *
   generalize (resP (xs.map LItem.it) vals)[j] = q at *
   obtain ⟨co, cc, hcv⟩ := hxi.1.form
   obtain ⟨ro, rc, hrv2⟩ := hxi.2.2.1.form
   obtain ⟨it, cv, rv0, zv⟩ := x
   obtain ⟨⟨y0, y1⟩, yv⟩ := y
   obtain ⟨q0, qm⟩ := q
   simp only at hcv hrv2 l0 l1 l2 hbd hstep hown hwx hget
   subst hcv hrv2
   have hq := hget.1
   subst hq
   simp only at hbd
   have HST := hide hstep
   have HIK := hide ikey
   have HLAB := hide hlab
   have HOWN := hide hown
   have hjx : (j : Int) < xs.length := by omega
   have hjl : (j : Int) < (labsP (xs.map LItem.it)).length := by omega
   have hjr : (j : Int) < rs.length := by omega
   have hb1 : Below wr.heap.size wr (wr.alloc (.cells #[.int .i64 y0, .int .i64 y1, .slice mo qm.length mc] 128)) := (Below.refl _ wr).alloc (Nat.le_refl _) _
   have hN1 : Box wr.heap.size #[.int .i64 y0, .int .i64 y1, .slice mo qm.length mc] 128 (wr.alloc (.cells #[.int .i64 y0, .int .i64 y1, .slice mo qm.length mc] 128)) := alloc_last wr _
   have hw1 := hwi.below hb1
   have k0 := ikey _ hw1.bl 0 (by omega)
   simp only [itCells, icells, List.getElem?_cons_zero, Nat.add_zero] at k0
   have HWa := hide hw1
   have HLa := hide (owns_below hlw hb1)
   have HRa := hide (hrv.below hb1)
   have HSa := hide (owns_below hro hb1)
   have HMa := hide (owns_below hown hb1)
   have HNa := hide hN1
   have hwib := hwi.blk
   have hne : wr.heap.size ≠ w.heap.size := by omega
   have hnm := hwx.name
   clear key hx2 hc2 hm2 hgl2 hx3 hc3 hm3 hgl3 hx hc hm hgl hwi hlw hrv hro hxi hmv hget hstep ikey hlab hown hb1 hN1 hw1
   go_wp2_with fail
   refine (ws_any _ (uh HWa) (by omega) (by omega)).mono ?_
   rintro e wb ⟨rfl, hwb, hob⟩
   have HWb := hide hwb
   have HLb := hide (owns_kept (uh HWa) hob (by decide) (by decide) (uh HLa))
   have HRb := hide ((uh HRa).kept (uh HWa) hob)
   have HSb := hide (owns_kept (uh HWa) hob (by decide) (by decide) (uh HSa))
   have HMb := hide (owns_kept (uh HWa) hob (by decide) (by decide) (uh HMa))
   have HNb := hide ((uh HNa).kept hob hne (by decide))
   clear hwb hob HWa HLa HRa HSa HMa HNa k0
   go_wp2_with fail
   refine (wb_any _ (uh HWb) (by simp; omega) (by simp) (by simp)).mono ?_
   rintro e wc ⟨rfl, hwc, hoc⟩
   have HWc := hide hwc
   have hLc := owns_kept (uh HWb) hoc (by decide) (by decide) (uh HLb)
   have lab := uh HLAB _ hLc
   have HLc := hide hLc
   have HRc := hide ((uh HRb).kept (uh HWb) hoc)
   have HSc := hide (owns_kept (uh HWb) hoc (by decide) (by decide) (uh HSb))
   have HMc := hide (owns_kept (uh HWb) hoc (by decide) (by decide) (uh HMb))
   have hNc := (uh HNb).kept hoc hne (by decide)
   have HNc := hide hNc
   obtain ⟨⟨n0, n1, n2⟩, _⟩ := box3 hNc
   have hsN := lt_of_block hNc
   have i0 := uh HIK _ hwc.bl 0 (by omega)
   have i1 := uh HIK _ hwc.bl 1 (by omega)
   have i2 := uh HIK _ hwc.bl 2 (by omega)
   have i3 := uh HIK _ hwc.bl 3 (by omega)
   have i4 := uh HIK _ hwc.bl 4 (by omega)
   have i5 := uh HIK _ hwc.bl 5 (by omega)
   have i6 := uh HIK _ hwc.bl 6 (by omega)
   simp only [itCells, icells, List.getElem?_cons_zero, List.getElem?_cons_succ, Nat.add_zero] at i0 i1 i2 i3 i4 i5 i6
   clear hwc hoc hLc hNc HWb HLb HRb HSb HMb HNb
   have hbits := bits_not7 h7 hcl
   cases hs : seenB lb clear with
   | true =>
    have hsb : ((((lb &&& (7 - clear) : Nat) : Int)) == 0) = true := by unfold seenB at hs; simp at hs ⊢; omega
    have HSN := hide hs
    clear hs
    go_wp2_with fail
    have hcall := writeKnown_any (W0 := w) (b := w.heap.size) (w := wc.drew) it co ro it.cols.length cc it.rules.length rc ⟨y0, y1⟩ qm mo mc (uh HWc).drew (by simp; omega) (uh HT) (owns_drew (uh HMc)) (by omega) (fun i hi => by have := hbd.2.2 i hi; omega) (by simp only; omega) (by simp only; omega)
    have HCALL := hide hcall
    clear hcall
    go_region_with (go_at_call 71; refine (uh HCALL).mono ?_; rintro e wd ⟨rfl, hwd, hod⟩; have HWd := hide hwd; have HLd := hide (owns_kept (w := wc) (uh HWc) hod (by decide) (by decide) (uh HLc)); have HRd := hide (ResV.kept (w := wc) (uh HWc) hod (uh HRc)); have HSd := hide (owns_kept (w := wc) (uh HWc) hod (by decide) (by decide) (uh HSc)); clear hwd hod)
    all_goals
     have hkl : (knownOut it (⟨y0, y1⟩, qm)).length ≤ 1000 := by
      have := lineOut_len (it := it) (lb := 0) (clear := 0) (r := (⟨y0, y1⟩, qm)) hnm hbd.1 hbd.2.1 hbd.2.2
      unfold lineOut seenB at this
      simp at this
      omega
     go_wp2_with fail
     refine (wb_any _ (uh HWd) (by simp; omega) (by simp) (by simp)).mono ?_
     rintro e we ⟨rfl, hwe, hoe⟩
     have HWe := hide hwe
     have HLe := hide (owns_kept (uh HWd) hoe (by decide) (by decide) (uh HLd))
     have HRe := hide ((uh HRd).kept (uh HWd) hoe)
     have HSe := hide (owns_kept (uh HWd) hoe (by decide) (by decide) (uh HSd))
     clear hwe hoe
     go_wp2
     go_roundg (rs.length - (j + 1))
     case measure => have := A.out.1; omega
     case rel =>
      refine ⟨j + 1, by omega, rfl, by go_num, ?_, uh HLe, uh HRe, uh HSe⟩
      rw [uh HST]
      have := uh HWe
      simpa [lineOut, uh HSN, u8] using this
   | false =>
    have hsb : ((((lb &&& (7 - clear) : Nat) : Int)) == 0) = false := by unfold seenB at hs; simp at hs ⊢; omega
    have HSN := hide hs
    clear hs
    go_wp2_with fail
    refine (wb_any _ (uh HWc) (by simp; omega) (by simp) (by simp)).mono ?_
    rintro e wd ⟨rfl, hwd, hod⟩
    have HWd := hide hwd
    have HLd := hide (owns_kept (uh HWc) hod (by decide) (by decide) (uh HLc))
    have HRd := hide ((uh HRc).kept (uh HWc) hod)
    have HSd := hide (owns_kept (uh HWc) hod (by decide) (by decide) (uh HSc))
    clear hwd hod
    go_wp2_with fail
    refine (wb_any _ (uh HWd) (by simp; omega) (by simp) (by simp)).mono ?_
    rintro e we ⟨rfl, hwe, hoe⟩
    have HWe := hide hwe
    have HLe := hide (owns_kept (uh HWd) hoe (by decide) (by decide) (uh HLd))
    have HRe := hide ((uh HRd).kept (uh HWd) hoe)
    have HSe := hide (owns_kept (uh HWd) hoe (by decide) (by decide) (uh HSd))
    clear hwe hoe
    go_wp2
    go_roundg (rs.length - (j + 1))
    case measure => have := A.out.1; omega
    case rel =>
     refine ⟨j + 1, by omega, rfl, by go_num, ?_, uh HLe, uh HRe, uh HSe⟩
     rw [uh HST]
     have := uh HWe
     simpa [lineOut, uh HSN, u8] using this
  ·have hje : j = rs.length := by omega
   have HJ : Hid (toldTo its (labsP its) (resP its vals) clear j = explainP (xs.map LItem.it) clear vals) := hide (by
    rw [uh HITS, hje]; unfold explainP; rw [List.length_map, uh HRL])
   have hjc : ¬ (j : Int) < rs.length := by omega
   clear hje hwi hlw hrv hro
   go_wp2_with fail
   refine (Tryz.Builder_String_any_k w.heap.size w.heap.size _ _ A.out.2.bd A.out.2.bl.size).mono ?_
   rintro e w9 ⟨rfl, _, hb9, _⟩
   have HB := hide (A.out.2.bl.trans hb9)
   clear hb9
   go_wp2
   go_ret
   refine ⟨?_, uh HB⟩
   rw [uh HJ]
   rfl
end Go.Proofs.YthnggjaecngbiaaGreatDoor
namespace Go.Proofs.YthnggjaecngbiaaGreatDoor
open Go.RowKit
set_option maxHeartbeats 400000 in
theorem all_any (g : Nat) (v : Value) (w : World) (h : w.heap[g]? = some (.cells #[v] 98)) (hv : ∃ ao n cap, v = .slice ao n cap) :
  Calls Tryz.prog 44 #[.pointer (some ⟨g, 0, none⟩)] w fun e w' => e = .returned v ∧ w' = w := by
 obtain ⟨ao, n, cap, rfl⟩ := hv
 have c0 : w.cell? ⟨g, 0, none⟩ = some (.slice ao n cap) := by simp [World.cell?, h]
 have hl := lt_of_block h
 clear h
 go_enter Tryz.func44, Tryz.ntmps44
 go_wp2
 go_ret
 exact ⟨rfl, rfl⟩
def labelP (its : List PItem) (nm : ByteArray) : Int × Int := if namedP its nm then ((((labsP its).getD (placeP its nm).toNat 0 : Nat) : Int), 0) else (0, 4)
set_option maxRecDepth 100000 in
set_option maxHeartbeats 800000 in
theorem label_any (g : Nat) (its : List PItem) (nm : ByteArray) (w : World) (h : PlanAt w g its) :
  Calls Tryz.prog 18 #[.pointer (some ⟨g, 0, none⟩), .string nm] w fun e w' => e = .returned (.tuple #[.int .i64 (labelP its nm).1, .int .i64 (labelP its nm).2]) ∧ Below w.heap.size w w' := by
 obtain ⟨v, xs, hN, hit, hxs, hwf, hok⟩ := h
 obtain ⟨ao, cap, rfl⟩ := hit.1.form
 have hlen : xs.length ≤ 12 := by have := hok.len; rw [← hxs] at this; simpa using this
 have HN := hide hN
 have HI := hide hit
 have HX := hide hxs
 have HK := hide hok
 clear hN hit hxs hok hwf
 cases hn : namedP its nm with
 | false =>
  have HP := hide (placeP_out hn)
  have HL : Hid (labelP its nm = (0, 4)) := hide (by unfold labelP; rw [if_neg (by rw [hn]; simp)])
  clear hn
  go_enter Tryz.func18, Tryz.ntmps18
  go_wp2_with fail
  refine (all_any g _ _ (uh HN) ⟨_, _, _, rfl⟩).mono ?_
  rintro e w1 ⟨rfl, rfl⟩
  go_wp2_with fail
  refine (place_any _ xs nm _ (uh HI) (by omega)).mono ?_
  rintro e w2 ⟨rfl, hb2⟩
  rw [uh HX, uh HP]
  have HB2 := hide hb2
  clear hb2
  go_wp2_with fail
  go_ret2
  rw [uh HL]
  exact ⟨rfl, uh HB2⟩
 | true =>
  obtain ⟨i, hp, hi⟩ := placeP_in hn
  have HL : Hid (labelP its nm = ((((labsP its).getD i 0 : Nat) : Int), 0)) := hide (by unfold labelP; rw [if_pos hn, hp, Int.toNat_natCast])
  have HP := hide hp
  clear hn hp
  go_enter Tryz.func18, Tryz.ntmps18
  go_wp2_with fail
  refine (all_any g _ _ (uh HN) ⟨_, _, _, rfl⟩).mono ?_
  rintro e w1 ⟨rfl, rfl⟩
  go_wp2_with fail
  refine (place_any _ xs nm _ (uh HI) (by omega)).mono ?_
  rintro e w2 ⟨rfl, hb2⟩
  rw [uh HX, uh HP]
  have HB2 := hide hb2
  have HN2 := hide ((hb2.block _ (lt_of_block (uh HN))).trans (uh HN))
  have HI2 := hide ((uh HI).below hb2)
  clear hb2
  go_wp2_with fail
  refine (all_any g _ _ (uh HN2) ⟨_, _, _, rfl⟩).mono ?_
  rintro e w3 ⟨rfl, rfl⟩
  go_wp2_with fail
  refine (labels_any _ xs _ (uh HI2) (by rw [uh HX]; exact uh HK)).mono ?_
  rintro e w4 ⟨lv, rfl, hb4, hlo⟩
  rw [uh HX] at hlo
  have hll : (labsP its).length = its.length := by unfold labsP; rw [labsTo_len]
  rcases SlAt.of_owns hlo with ⟨h0, _⟩ | ⟨g3, cap3, hv3, hc3, hm3, hgl3, hx3⟩
  ·omega
  subst hv3
  have k0 : w4.cell? ⟨g3, i, none⟩ = some (.int .i64 ((labsP its).getD i 0 : Int)) := by
   rw [hx3 i (by omega), getD_at _ _ (by omega)]
   simp [nats, hll, hi]
  have hic : (i : Int) < (labsP its).length := by omega
  have HB4 := hide (below_after (uh HB2) hb4)
  generalize (labsP its).getD i 0 = y at *
  clear hx3 hc3 hm3 hb4 hlo hll
  go_wp2_with fail
  go_ret2
  rw [uh HL]
  exact ⟨rfl, uh HB4⟩
def EvalOf (its : List PItem) (vals : List Int) (w : World) (e : Ending) (w' : World) : Prop :=
 (fitsP its vals = false ∧ e = .returned (.tuple #[.slice none 0 0, .int .i64 7]) ∧ Below w.heap.size w w') ∨
 (fitsP its vals = true ∧ ∃ ao cap, e = .returned (.tuple #[.slice ao (tabsP its vals).length cap, .int .i64 0]) ∧ Below w.heap.size w w' ∧ w'.ownsRow w.heap.size 51 2 (.slice ao (tabsP its vals).length cap) (tabsP its vals).length ((tabsP its vals).flatMap vcells))
set_option maxRecDepth 100000 in
set_option maxHeartbeats 800000 in
theorem eval_any (g : Nat) (its : List PItem) (vl : Value) (vals : List Int) (w : World) (h : PlanAt w g its) (hvl : SlAt w 1 vl vals.length (ints vals)) :
  Calls Tryz.prog 20 #[.pointer (some ⟨g, 0, none⟩), vl] w (EvalOf its vals w) := by
 obtain ⟨v, xs, hN, hit, hxs, hwf, hok⟩ := h
 obtain ⟨ao, cap, rfl⟩ := hit.1.form
 obtain ⟨vo, vc, rfl⟩ := hvl.form
 have hlen : xs.length ≤ 12 := by have := hok.len; rw [← hxs] at this; simpa using this
 have HN := hide hN
 have HI := hide hit
 have HX := hide hxs
 have HK := hide hok
 have HWF := hide hwf
 have HV := hide hvl
 clear hN hit hxs hok hwf hvl
 cases hf : fitsP its vals with
 | false =>
  have HF := hide hf
  clear hf
  go_enter Tryz.func20, Tryz.ntmps20
  go_wp2_with fail
  refine (all_any g _ _ (uh HN) ⟨_, _, _, rfl⟩).mono ?_
  rintro e w1 ⟨rfl, rfl⟩
  go_wp2_with fail
  refine (fits_any _ xs _ vals _ (uh HI) hlen (uh HV)).mono ?_
  rintro e w2 ⟨rfl, hb2⟩
  rw [uh HX, uh HF]
  have HB2 := hide hb2
  clear hb2
  go_wp2_with fail
  go_ret2
  exact Or.inl ⟨uh HF, rfl, uh HB2⟩
 | true =>
  have HF := hide hf
  clear hf
  go_enter Tryz.func20, Tryz.ntmps20
  go_wp2_with fail
  refine (all_any g _ _ (uh HN) ⟨_, _, _, rfl⟩).mono ?_
  rintro e w1 ⟨rfl, rfl⟩
  go_wp2_with fail
  refine (fits_any _ xs _ vals _ (uh HI) hlen (uh HV)).mono ?_
  rintro e w2 ⟨rfl, hb2⟩
  rw [uh HX, uh HF]
  have HB2 := hide hb2
  have HN2 := hide ((hb2.block _ (lt_of_block (uh HN))).trans (uh HN))
  have HI2 := hide ((uh HI).below hb2)
  have HV2 := hide ((uh HV).below hb2)
  clear hb2
  go_wp2_with fail
  refine (all_any g _ _ (uh HN2) ⟨_, _, _, rfl⟩).mono ?_
  rintro e w3 ⟨rfl, rfl⟩
  go_wp2_with fail
  refine (tables_any _ xs _ vals _ (uh HI2) (by rw [uh HX]; exact uh HK) (uh HWF) (uh HV2) (by rw [uh HX]; exact (fits_bd (uh HF)).1)).mono ?_
  rintro e w4 ⟨tv, rfl, hb4, hto⟩
  rw [uh HX] at hto
  obtain ⟨tq, tc, rfl⟩ := (SlAt.of_owns hto).form
  have HB4 := hide (below_after (uh HB2) hb4)
  have HTO := hide (owns_base hto (uh HB2).size)
  clear hb4 hto
  go_wp2_with fail
  go_ret2
  exact Or.inr ⟨uh HF, tq, tc, rfl, uh HB4, uh HTO⟩
def explR (its : List PItem) (clear : Int) (vals : List Int) : List UInt8 × Int :=
 if (0 ≤ clear ∧ clear ≤ 7) ∧ fitsP its vals = true then (explainP its clear.toNat vals, 0) else ([], 7)
set_option maxRecDepth 100000 in
set_option maxHeartbeats 800000 in
theorem explain_any (g : Nat) (its : List PItem) (clear : Int) (vl : Value) (vals : List Int) (w : World) (h : PlanAt w g its) (hvl : SlAt w 1 vl vals.length (ints vals)) (ht : Tab w) :
  Calls Tryz.prog 17 #[.pointer (some ⟨g, 0, none⟩), .int .i64 clear, vl] w fun e w' => e = .returned (.tuple #[.string ⟨(explR its clear vals).1.toArray⟩, .int .i64 (explR its clear vals).2]) ∧ Below w.heap.size w w' := by
 obtain ⟨v, xs, hN, hit, hxs, hwf, hok⟩ := h
 obtain ⟨ao, cap, rfl⟩ := hit.1.form
 obtain ⟨vo, vc, rfl⟩ := hvl.form
 have hlen : xs.length ≤ 12 := by have := hok.len; rw [← hxs] at this; simpa using this
 have HN := hide hN
 have HI := hide hit
 have HX := hide hxs
 have HK := hide hok
 have HWF := hide hwf
 have HV := hide hvl
 have HT := hide ht
 clear hN hit hxs hok hwf hvl ht
 cases hc : decide (0 ≤ clear ∧ clear ≤ 7) with
 | false =>
  have HC := hide hc
  have HE : Hid (explR its clear vals = ([], 7)) := hide (by unfold explR; rw [if_neg]; intro h9; simp at hc; omega)
  clear hc
  go_enter Tryz.func17, Tryz.ntmps17
  go_wp2_with fail
  refine (isSet_any _ _).mono ?_
  rintro e w1 ⟨rfl, hb1⟩
  rw [uh HC]
  have HB1 := hide hb1
  clear hb1
  go_wp2_with fail
  go_ret2
  rw [uh HE]
  exact ⟨rfl, uh HB1⟩
 | true =>
  have HC := hide hc
  have hcc : 0 ≤ clear ∧ clear ≤ 7 := by simpa using hc
  clear hc
  cases hf : fitsP its vals with
  | false =>
   have HF := hide hf
   have HE : Hid (explR its clear vals = ([], 7)) := hide (by unfold explR; rw [if_neg]; intro h9; rw [hf] at h9; simp at h9)
   clear hf
   go_enter Tryz.func17, Tryz.ntmps17
   go_wp2_with fail
   refine (isSet_any _ _).mono ?_
   rintro e w1 ⟨rfl, hb1⟩
   rw [uh HC]
   have HB1 := hide hb1
   have HN1 := hide ((hb1.block _ (lt_of_block (uh HN))).trans (uh HN))
   have HI1 := hide ((uh HI).below hb1)
   have HV1 := hide ((uh HV).below hb1)
   clear hb1
   go_wp2_with fail
   refine (all_any g _ _ (uh HN1) ⟨_, _, _, rfl⟩).mono ?_
   rintro e w3 ⟨rfl, rfl⟩
   go_wp2_with fail
   refine (fits_any _ xs _ vals _ (uh HI1) hlen (uh HV1)).mono ?_
   rintro e w2 ⟨rfl, hb2⟩
   rw [uh HX, uh HF]
   have HB2 := hide (below_after (uh HB1) hb2)
   clear hb2
   go_wp2_with fail
   go_ret2
   rw [uh HE]
   exact ⟨rfl, uh HB2⟩
  | true =>
   have HF := hide hf
   obtain ⟨cl, rfl⟩ : ∃ cl : Nat, clear = (cl : Int) := ⟨clear.toNat, by omega⟩
   have HE : Hid (explR its cl vals = (explainP its cl vals, 0)) := hide (by unfold explR; rw [if_pos ⟨hcc, hf⟩, Int.toNat_natCast])
   clear hf
   go_enter Tryz.func17, Tryz.ntmps17
   go_wp2_with fail
   refine (isSet_any _ _).mono ?_
   rintro e w1 ⟨rfl, hb1⟩
   rw [uh HC]
   have HB1 := hide hb1
   have HN1 := hide ((hb1.block _ (lt_of_block (uh HN))).trans (uh HN))
   have HI1 := hide ((uh HI).below hb1)
   have HV1 := hide ((uh HV).below hb1)
   clear hb1
   go_wp2_with fail
   refine (all_any g _ _ (uh HN1) ⟨_, _, _, rfl⟩).mono ?_
   rintro e w3 ⟨rfl, rfl⟩
   go_wp2_with fail
   refine (fits_any _ xs _ vals _ (uh HI1) hlen (uh HV1)).mono ?_
   rintro e w2 ⟨rfl, hb2⟩
   rw [uh HX, uh HF]
   have HB2 := hide (below_after (uh HB1) hb2)
   have HN2 := hide ((hb2.block _ (lt_of_block (uh HN1))).trans (uh HN1))
   have HI2 := hide ((uh HI1).below hb2)
   have HV2 := hide ((uh HV1).below hb2)
   clear hb2
   go_wp2_with fail
   refine (all_any g _ _ (uh HN2) ⟨_, _, _, rfl⟩).mono ?_
   rintro e w4 ⟨rfl, rfl⟩
   go_wp2_with fail
   refine (explWrite_any _ xs cl _ vals _ (uh HI2) (by rw [uh HX]; exact uh HK) (uh HWF) (uh HV2) (by rw [uh HX]; exact uh HF) (by omega) (tab_below (uh HB2) (uh HT))).mono ?_
   rintro e w5 ⟨rfl, hb5⟩
   rw [uh HX]
   have HB5 := hide (below_after (uh HB2) hb5)
   clear hb5
   go_wp2_with fail
   go_ret2
   rw [uh HE]
   exact ⟨rfl, uh HB5⟩
end Go.Proofs.YthnggjaecngbiaaGreatDoor
namespace Go.Proofs.YthnggjaecngbiaaGreatDoor
open Go.RowKit
/-! The document's own reader (package curtainref). -/
def RR (b : Nat) (s : ByteArray) (k : Nat) (bad far : Bool) (w : World) : Prop := w.heap[b]? = some (.cells #[.string s, .int .i64 (k : Int), .bool bad, .bool far] 173)
section
variable {b : Nat} {s : ByteArray} {k : Nat} {bad far : Bool} {w w' w'' : World}
theorem RR.lt (h : RR b s k bad far w) : b < w.heap.size := (Array.getElem?_eq_some_iff.1 h).1
theorem RR.text (h : RR b s k bad far w) : w.cell? ⟨b, 0, none⟩ = some (.string s) := by
 unfold RR at h; simp [World.cell?, h]
theorem RR.at (h : RR b s k bad far w) : w.cell? ⟨b, 1, none⟩ = some (.int .i64 (k : Int)) := by
 unfold RR at h; simp [World.cell?, h]
theorem RR.badC (h : RR b s k bad far w) : w.cell? ⟨b, 2, none⟩ = some (.bool bad) := by
 unfold RR at h; simp [World.cell?, h]
theorem RR.farC (h : RR b s k bad far w) : w.cell? ⟨b, 3, none⟩ = some (.bool far) := by
 unfold RR at h; simp [World.cell?, h]
theorem RR.free (h : RR b s k bad far w) (i : Nat) : w.frozen? ⟨b, i, none⟩ = false := by
 unfold RR at h; simp [World.frozen?, h]
theorem RR.drewN (h : RR b s k bad far w) (n : Nat) : RR b s k bad far (w.drewN n) := h
theorem RR.setAt (h : RR b s k bad far w) (m : Nat) : RR b s m bad far (w.setCell ⟨b, 1, none⟩ (.int .i64 (m : Int))) := by
 unfold RR at h ⊢; simp [World.setCell, Array.getElem?_modify, h]
theorem RR.setBad (h : RR b s k bad far w) (x : Bool) : RR b s k x far (w.setCell ⟨b, 2, none⟩ (.bool x)) := by
 unfold RR at h ⊢; simp [World.setCell, Array.getElem?_modify, h]
theorem RR.setFar (h : RR b s k bad far w) (x : Bool) : RR b s k bad x (w.setCell ⟨b, 3, none⟩ (.bool x)) := by
 unfold RR at h ⊢; simp [World.setCell, Array.getElem?_modify, h]
theorem RR.keep (h : RR b s k bad far w) (e : w'.heap[b]? = w.heap[b]?) : RR b s k bad far w' := by
 unfold RR at h ⊢; rw [e]; exact h
end
structure Mv (b : Nat) (w w' : World) : Prop where
 os : w'.os = w.os
 tape : w'.tape = w.tape
 output : w'.output = w.output
 size : w.heap.size ≤ w'.heap.size
 block : ∀ j, j < w.heap.size → j ≠ b → w'.heap[j]? = w.heap[j]?
section
variable {b : Nat} {w w' w'' : World}
theorem Mv.refl (b : Nat) (w : World) : Mv b w w := ⟨rfl, rfl, rfl, Nat.le_refl _, fun _ _ _ => rfl⟩
theorem Mv.drewN (h : Mv b w w') (n : Nat) : Mv b w (w'.drewN n) := ⟨h.os, h.tape, h.output, h.size, h.block⟩
theorem Mv.drew (h : Mv b w w') : Mv b w w'.drew := ⟨h.os, h.tape, h.output, h.size, h.block⟩
theorem Mv.of_drew (h : Mv b w.drew w') : Mv b w w' := ⟨h.os, h.tape, h.output, h.size, h.block⟩
theorem Mv.trans (h : Mv b w w') (g : Mv b w' w'') : Mv b w w'' :=
 ⟨g.os.trans h.os, g.tape.trans h.tape, g.output.trans h.output, Nat.le_trans h.size g.size, fun j hj hb => (g.block j (Nat.lt_of_lt_of_le hj h.size) hb).trans (h.block j hj hb)⟩
theorem Mv.set (h : Mv b w w') (i : Nat) (v : Value) : Mv b w (w'.setCell ⟨b, i, none⟩ v) :=
 ⟨h.os, h.tape, h.output, by simp only [World.setCell, Array.size_modify]; exact h.size, fun j hj hb => by rw [Below.heap_setCell _ _ _ _ hb]; exact h.block j hj hb⟩
theorem Mv.setNew (h : Mv b w w') {a : Addr} (ha : w.heap.size ≤ a.block) (v : Value) : Mv b w (w'.setCell a v) :=
 ⟨h.os, h.tape, h.output, by simp only [World.setCell, Array.size_modify]; exact h.size, fun j hj hjb => by rw [Below.heap_setCell _ _ _ _ (by omega)]; exact h.block j hj hjb⟩
theorem Mv.below (h : Mv b w w') (g : Below w'.heap.size w' w'') : Mv b w w'' :=
 ⟨g.os.trans h.os, g.tape.trans h.tape, g.output.trans h.output, Nat.le_trans h.size g.size, fun j hj hb => (g.block j (Nat.lt_of_lt_of_le hj h.size)).trans (h.block j hj hb)⟩
theorem Mv.alloc (h : Mv b w w') (o : Obj) : Mv b w (w'.alloc o) := h.below ((Below.refl _ _).alloc (Nat.le_refl _) _)
theorem Mv.of_alloc {o : Obj} (h : Mv b (w.alloc o) w') : Mv b w w' :=
 ⟨h.os, h.tape, h.output, by have := h.size; simp at this; omega, fun j hj hb => by rw [h.block j (by simp; omega) hb, Below.heap_alloc _ _ _ hj]⟩
theorem Mv.kept {o : Obj} (h : Mv b (w.alloc o) w') (hb : b < w.heap.size) : w'.heap[w.heap.size]? = some o := by
 rw [h.block _ (by simp) (by omega)]; exact alloc_last w o
theorem Mv.grown {row : Option Nat} (h : Mv b w w') (g : w'.grownBy w'' row) (hr : ∀ j, row = some j → w.heap.size ≤ j) : Mv b w w'' :=
 ⟨g.os.trans h.os, g.tape.trans h.tape, g.output.trans h.output, Nat.le_trans h.size g.size, fun j hj hjb => (g.block j (Nat.lt_of_lt_of_le hj h.size) (fun e => by have := hr j e.symm; omega)).trans (h.block j hj hjb)⟩
theorem Mv.below_of {o : Obj} (h : Mv w.heap.size (w.alloc o) w') : Below w.heap.size w w' :=
 ⟨h.os, h.tape, h.output, by have := h.size; simp at this; omega, fun j hj => by rw [h.block j (by simp; omega) (by omega), Below.heap_alloc _ _ _ hj]⟩
end
def hv (s : ByteArray) (k : Nat) (bad : Bool) : Int := if bad then 0 else if k < s.size then byteAt s k else 0
theorem hv_bad (s : ByteArray) (k : Nat) : hv s k true = 0 := rfl
theorem hv_in {s : ByteArray} {k : Nat} (h : k < s.size) : hv s k false = (s[k].toNat : Int) := by simp [hv, h, byteAt]
theorem hv_out {s : ByteArray} {k : Nat} (h : s.size ≤ k) : hv s k false = 0 := by
 have : ¬ k < s.size := by omega
 simp [hv, this]
theorem hv_eq {s : ByteArray} {k : Nat} {c : Int} (hc : 0 < c) : (hv s k false == c) = inR s k c c := by
 rw [inR_one]
 by_cases h : k < s.size
 ·rw [hv_in h, byteAt_in h]; rw [Bool.eq_iff_iff]; simp
 ·rw [hv_out (by omega), byteAt_out (by omega), Bool.eq_iff_iff]; simp; omega
theorem hv_ne {s : ByteArray} {k : Nat} {c : Int} (hc : 0 < c) (h : inR s k c c = false) : (hv s k false == c) = false := by rw [hv_eq hc]; exact h
theorem hv_yes {s : ByteArray} {k : Nat} {c : Int} (h : inR s k c c = true) (hc : 0 < c) : hv s k false = c := by
 have := hv_eq (s := s) (k := k) hc
 rw [h] at this
 simpa using this
theorem hv_low (s : ByteArray) (k : Nat) : isLow (hv s k false) = isLow (byteAt s k) := by
 by_cases h : k < s.size
 ·rw [hv_in h, byteAt_in h]
 ·rw [hv_out (by omega), byteAt_out (by omega)]; rfl
theorem hv_dig (s : ByteArray) (k : Nat) : isDig (hv s k false) = isDig (byteAt s k) := by
 by_cases h : k < s.size
 ·rw [hv_in h, byteAt_in h]
 ·rw [hv_out (by omega), byteAt_out (by omega)]; rfl
theorem hv_blank (s : ByteArray) (k : Nat) : isBlank (hv s k false) = isBlank (byteAt s k) := by
 by_cases h : k < s.size
 ·rw [hv_in h, byteAt_in h]
 ·rw [hv_out (by omega), byteAt_out (by omega)]; rfl
theorem hv_bd (s : ByteArray) (k : Nat) (bad : Bool) : 0 ≤ hv s k bad ∧ hv s k bad ≤ 255 := by
 unfold hv byteAt
 split
 ·omega
 ·split
  ·have := (s[k]).toNat_lt; omega
  ·omega
set_option maxHeartbeats 400000 in
theorem rhere_any (b : Nat) (s : ByteArray) (k : Nat) (bad far : Bool) (w : World) (hr : RR b s k bad far w) :
  Calls Tryz.prog 137 #[.pointer (some ⟨b, 0, none⟩)] w fun e w' => e = .returned (.int .u8 (hv s k bad)) ∧ ∃ n, w' = w.drewN n := by
 have h0 := hr.text
 have h1 := hr.at
 have h2 := hr.badC
 clear hr
 cases bad with
 | true =>
  go_enter Tryz.func137, Tryz.ntmps137
  go_wp2
  go_quiet (fail)
  go_wp2
  go_ret
  exact ⟨rfl, _, rfl⟩
 | false =>
  by_cases hk : k < s.size
  ·have hd : decide ((s.size : Int) ≤ (k : Int)) = false := by simp; omega
   rw [hv_in hk]
   go_enter Tryz.func137, Tryz.ntmps137
   go_wp2
   go_quiet (fail)
   go_wp2
   go_quiet (fail)
   go_wp2
   go_ret
   exact ⟨rfl, _, World.drewN_drewN _ _ _⟩
  ·have hd : decide ((s.size : Int) ≤ (k : Int)) = true := by simp; omega
   rw [hv_out (by omega)]
   go_enter Tryz.func137, Tryz.ntmps137
   go_wp2
   go_quiet (fail)
   go_wp2
   go_ret
   exact ⟨rfl, _, rfl⟩
end Go.Proofs.YthnggjaecngbiaaGreatDoor
namespace Go.Proofs.YthnggjaecngbiaaGreatDoor
open Go.RowKit
set_option maxHeartbeats 400000 in
theorem rblanks_ok (b : Nat) (s : ByteArray) (k : Nat) (far : Bool) (w : World) (hr : RR b s k false far w) (hs : s.size ≤ 1000) (hk : k ≤ s.size) :
  Calls Tryz.prog 106 #[.pointer (some ⟨b, 0, none⟩)] w fun e w' => e = .returned (.tuple #[]) ∧ Mv b w w' ∧ RR b s (nextP s k) false far w' := by
 go_enter Tryz.func106, Tryz.ntmps106
 go_wp2_with fail
 go_loopg [] (s.size - k) (fun g wr => ∃ m, m ≤ s.size ∧ g = s.size - m ∧ nextP s m = nextP s k ∧ Mv b w wr ∧ RR b s m false far wr)
 case atStart => exact ⟨k, hk, rfl, rfl, Mv.refl _ _, hr⟩
 case round =>
  obtain ⟨m, hm, hg, hn, hmv, hrd⟩ := hrel
  clear hr
  have A : Aside (gk = s.size - m ∧ nextP s m = nextP s k ∧ Mv b w wr ∧ RR b s m false far wr) := ⟨hg, hn, hmv, hrd⟩
  clear hg hn hmv
  have h1 := hrd.at
  have hf := hrd.free 1
  clear hrd
  have hblank : isBlank (byteAt s m) = isBlank (hv s m false) := (hv_blank s m).symm
  by_cases h32 : hv s m false = 32
  ·have hlt : m < s.size := by
    rcases Nat.lt_or_ge m s.size with h | h
    ·exact h
    ·rw [hv_out h] at h32; omega
   have HB : Hid (isBlank (byteAt s m) = true) := hide (by rw [hblank, h32]; rfl)
   have H32 := hide h32
   clear h32 hblank
   go_wp2_with (go_at_call 137; refine (rhere_any _ _ m false far _ (by exact A.out.2.2.2)).mono ?_; rintro e w' ⟨rfl, n, rfl⟩; rw [uh H32])
   go_roundg (s.size - (m + 1))
   case measure => obtain ⟨hg, _⟩ := A.out; omega
   case rel =>
    obtain ⟨hg, hn, hmv, hrd⟩ := A.out
    refine ⟨m + 1, by omega, rfl, by rw [← hn, nextP_step hlt HB.out], (hmv.drewN _).set _ _, ?_⟩
    rw [show ((m : Int) + 1) = ((m + 1 : Nat) : Int) from by omega]
    exact (hrd.drewN _).setAt (m + 1)
  ·by_cases h10 : hv s m false = 10
   ·have hlt : m < s.size := by
     rcases Nat.lt_or_ge m s.size with h | h
     ·exact h
     ·rw [hv_out h] at h10; omega
    have HB : Hid (isBlank (byteAt s m) = true) := hide (by rw [hblank, h10]; rfl)
    have H10 := hide h10
    clear h10 h32 hblank
    go_wp2_with (go_at_call 137; refine (rhere_any _ _ m false far _ (by exact A.out.2.2.2)).mono ?_; rintro e w' ⟨rfl, n, rfl⟩; rw [uh H10])
    go_roundg (s.size - (m + 1))
    case measure => obtain ⟨hg, _⟩ := A.out; omega
    case rel =>
     obtain ⟨hg, hn, hmv, hrd⟩ := A.out
     refine ⟨m + 1, by omega, rfl, by rw [← hn, nextP_step hlt HB.out], (hmv.drewN _).set _ _, ?_⟩
     rw [show ((m : Int) + 1) = ((m + 1 : Nat) : Int) from by omega]
     exact (hrd.drewN _).setAt (m + 1)
   ·have HB : Hid (isBlank (byteAt s m) = false) := hide (by rw [hblank]; unfold isBlank; simp [h32, h10])
    have e32 : (hv s m false == 32) = false := by simpa using h32
    have e10 : (hv s m false == 10) = false := by simpa using h10
    clear h10 h32 hblank
    generalize hx : hv s m false = x at *
    have HX := hide hx
    clear hx
    go_wp2_with (go_at_call 137; refine (rhere_any _ _ m false far _ (by exact A.out.2.2.2)).mono ?_; rintro e w' ⟨rfl, n, rfl⟩; rw [uh HX])
    go_end0
    obtain ⟨hg, hn, hmv, hrd⟩ := A.out
    rw [nextP_stop HB.out] at hn
    rw [← hn]
    exact ⟨rfl, hmv.drewN _, hrd.drewN _⟩
set_option maxHeartbeats 400000 in
theorem rblanks_bad (b : Nat) (s : ByteArray) (k : Nat) (far : Bool) (w : World) (hr : RR b s k true far w) :
  Calls Tryz.prog 106 #[.pointer (some ⟨b, 0, none⟩)] w fun e w' => e = .returned (.tuple #[]) ∧ Mv b w w' ∧ RR b s k true far w' := by
 have H := hide hr
 clear hr
 go_enter Tryz.func106, Tryz.ntmps106
 go_wp2_with fail
 go_loopg [] 0 (fun _ wr => wr = w)
 case atStart => rfl
 case round =>
  subst hrel
  go_wp2_with (go_at_call 137; refine (rhere_any _ _ k true far _ (by exact uh H)).mono ?_; rintro e w' ⟨rfl, n, rfl⟩; rw [hv_bad])
  go_end0
  exact ⟨rfl, (Mv.refl _ _).drewN _, (uh H).drewN _⟩
set_option maxHeartbeats 400000 in
theorem rone_yes (b : Nat) (s : ByteArray) (k : Nat) (c : Int) (far : Bool) (w : World) (hr : RR b s k false far w) (hs : s.size ≤ 1000) (hc : 0 < c) (h : inR s k c c = true) :
  Calls Tryz.prog 141 #[.pointer (some ⟨b, 0, none⟩), .int .u8 c] w fun e w' => e = .returned (.tuple #[]) ∧ Mv b w w' ∧ RR b s (nextP s (k + 1)) false far w' := by
 have hlt := inR_lt (by omega) h
 have HX := hide (hv_yes h hc)
 have h1 := hr.at
 have hf := hr.free 1
 have H := hide hr
 clear hr h
 go_enter Tryz.func141, Tryz.ntmps141
 go_wp2_with (go_at_call 137; refine (rhere_any _ _ k false far _ (by exact uh H)).mono ?_; rintro e w' ⟨rfl, n, rfl⟩; rw [uh HX])
 refine (rblanks_ok b s (k + 1) far _ (by rw [show ((k : Int) + 1) = ((k + 1 : Nat) : Int) from by omega]; exact ((uh H).drewN _).setAt (k + 1)) hs (by omega)).mono ?_
 rintro e w2 ⟨rfl, hm, hr2⟩
 have HM := hide (((Mv.refl b w).drewN _).set _ _ |>.trans hm)
 have HR := hide hr2
 clear hm hr2
 go_wp2
 go_end0
 exact ⟨rfl, uh HM, uh HR⟩
set_option maxHeartbeats 400000 in
theorem rone_no (b : Nat) (s : ByteArray) (k : Nat) (c : Int) (bad far : Bool) (w : World) (hr : RR b s k bad far w) (hc : 0 < c) (h : bad = true ∨ inR s k c c = false) :
  Calls Tryz.prog 141 #[.pointer (some ⟨b, 0, none⟩), .int .u8 c] w fun e w' => e = .returned (.tuple #[]) ∧ Mv b w w' ∧ RR b s k true far w' := by
 have hne : (hv s k bad == c) = false := by
  rcases h with rfl | h
  ·rw [hv_bad]; simp; omega
  ·cases bad with
   | true => rw [hv_bad]; simp; omega
   | false => exact hv_ne hc h
 generalize hx : hv s k bad = x at *
 have HX := hide hx
 clear hx h
 have h2 := hr.badC
 have hf := hr.free 2
 have H := hide hr
 clear hr
 go_enter Tryz.func141, Tryz.ntmps141
 go_wp2_with (go_at_call 137; refine (rhere_any _ _ k bad far _ (by exact uh H)).mono ?_; rintro e w' ⟨rfl, n, rfl⟩; rw [uh HX])
 (try simp only [Exit.inBlock, Exit.then]); refine bodyPost_ret (results_none rfl _ _ _) rfl ?_
 exact ⟨rfl, ((Mv.refl b w).drewN _).set _ _, ((uh H).drewN _).setBad true⟩
set_option maxHeartbeats 400000 in
theorem rletter_any (c : Int) (w : World) :
  Calls Tryz.prog 138 #[.int .u8 c] w fun e w' => e = .returned (.bool (isLow c)) ∧ w' = w := by
 by_cases h1 : 97 ≤ c
 ·have h2 : decide (97 ≤ c) = true := by simpa using h1
  go_enter Tryz.func138, Tryz.ntmps138
  go_wp2
  go_ret
  refine ⟨ret_bool ?_, rfl⟩
  simp [isLow, h1]
 ·have h2 : decide (97 ≤ c) = false := by simpa using h1
  go_enter Tryz.func138, Tryz.ntmps138
  go_wp2
  go_ret
  refine ⟨ret_bool ?_, rfl⟩
  have h3 : ¬ 97 ≤ c := by omega
  simp [isLow, h3]
set_option maxHeartbeats 400000 in
theorem rdigit_any (c : Int) (w : World) :
  Calls Tryz.prog 192 #[.int .u8 c] w fun e w' => e = .returned (.bool (isDig c)) ∧ w' = w := by
 by_cases h1 : 48 ≤ c
 ·have h2 : decide (48 ≤ c) = true := by simpa using h1
  go_enter Tryz.func192, Tryz.ntmps192
  go_wp2
  go_ret
  refine ⟨ret_bool ?_, rfl⟩
  simp [isDig, h1]
 ·have h2 : decide (48 ≤ c) = false := by simpa using h1
  go_enter Tryz.func192, Tryz.ntmps192
  go_wp2
  go_ret
  refine ⟨ret_bool ?_, rfl⟩
  have h3 : ¬ 48 ≤ c := by omega
  simp [isDig, h3]
end Go.Proofs.YthnggjaecngbiaaGreatDoor
namespace Go.Proofs.YthnggjaecngbiaaGreatDoor
open Go.RowKit
theorem extract_self (s : ByteArray) (k : Nat) : s.extract k k = ByteArray.empty := by
 apply ByteArray.ext
 rw [ByteArray.data_extract]
 simp
 omega
set_option maxHeartbeats 400000 in
theorem rword_ok (b : Nat) (s : ByteArray) (k : Nat) (far : Bool) (w : World) (hr : RR b s k false far w) (hs : s.size ≤ 1000) (hk : k ≤ s.size) :
  Calls Tryz.prog 107 #[.pointer (some ⟨b, 0, none⟩)] w fun e w' => e = .returned (.string (s.extract k (lowEnd s k))) ∧ w' = w := by
 have h0 := hr.text
 have h1 := hr.at
 have h2 := hr.badC
 clear hr
 go_enter Tryz.func107, Tryz.ntmps107
 go_wp2_with fail
 go_loopg [3, 4] (s.size - k) (fun g x i wr => ∃ m, k ≤ m ∧ m ≤ s.size ∧ g = s.size - m ∧ lowEnd s m = lowEnd s k ∧ x = .string (s.extract k m) ∧ i = .int .i64 (m : Int) ∧ wr = w)
 case atStart => exact ⟨k, Nat.le_refl _, hk, rfl, rfl, by rw [extract_self]; rfl, rfl, rfl⟩
 case round =>
  obtain ⟨m, hkm, hm, hg, hn, rfl, rfl, rfl⟩ := hrel
  have A : Aside (gk = s.size - m ∧ lowEnd s m = lowEnd s k) := ⟨hg, hn⟩
  clear hg hn
  by_cases hlt : m < s.size
  case neg =>
   have hd : decide ((m : Int) < s.size) = false := by simp; omega
   have he : lowEnd s k = m := by rw [← A.out.2]; exact skipTo_stop (by rw [byteAt_out (by omega)]; rfl)
   have HE := hide he
   clear he
   go_wp2_with fail
   go_ret
   exact ⟨by rw [uh HE]; rfl, rfl⟩
  have hd : decide ((m : Int) < s.size) = true := by simp; omega
  cases hl : isLow (byteAt s m) with
  | true =>
   have HL : Hid (isLow (s[m].toNat : Int) = true) := hide (by rw [← byteAt_in hlt]; exact hl)
   have HN : Hid (lowEnd s (m + 1) = lowEnd s k) := hide (by rw [← A.out.2]; exact (skipTo_step hlt hl).symm)
   clear hl
   go_wp2_with (go_at_call 138; refine (rletter_any _ _).mono ?_; rintro e w2' ⟨rfl, hw2⟩; rw [uh HL]; subst hw2)
   go_roundg (s.size - (m + 1))
   case measure => obtain ⟨hg, _⟩ := A.out; omega
   case rel => exact ⟨m + 1, by omega, by omega, rfl, uh HN, rfl, by rw [show ((m : Int) + 1) = ((m + 1 : Nat) : Int) from by omega], rfl⟩
  | false =>
   have HL : Hid (isLow (s[m].toNat : Int) = false) := hide (by rw [← byteAt_in hlt]; exact hl)
   have HE : Hid (lowEnd s k = m) := hide (by rw [← A.out.2]; exact skipTo_stop hl)
   clear hl
   go_wp2_with (go_at_call 138; refine (rletter_any _ _).mono ?_; rintro e w2' ⟨rfl, hw2⟩; rw [uh HL]; subst hw2)
   go_ret
   exact ⟨by rw [uh HE]; rfl, rfl⟩
set_option maxHeartbeats 400000 in
theorem rword_bad (b : Nat) (s : ByteArray) (k : Nat) (far : Bool) (w : World) (hr : RR b s k true far w) (_hs : s.size ≤ 1000) :
  Calls Tryz.prog 107 #[.pointer (some ⟨b, 0, none⟩)] w fun e w' => e = .returned (.string ByteArray.empty) ∧ w' = w := by
 have h0 := hr.text
 have h1 := hr.at
 have h2 := hr.badC
 clear hr
 go_enter Tryz.func107, Tryz.ntmps107
 go_wp2_with fail
 go_loopg [3, 4] 0 (fun _ x i wr => x = .string ByteArray.empty ∧ i = .int .i64 (k : Int) ∧ wr = w)
 case atStart => exact ⟨rfl, rfl, rfl⟩
 case round =>
  obtain ⟨rfl, rfl, rfl⟩ := hrel
  by_cases hlt : k < s.size
  ·have hd : decide ((k : Int) < s.size) = true := by simp; omega
   go_wp2_with fail
   go_ret
   exact ⟨rfl, rfl⟩
  ·have hd : decide ((k : Int) < s.size) = false := by simp; omega
   go_wp2_with fail
   go_ret
   exact ⟨rfl, rfl⟩
set_option maxHeartbeats 400000 in
theorem rpass_ok (b : Nat) (s : ByteArray) (k : Nat) (x : ByteArray) (far : Bool) (w : World) (hr : RR b s k false far w) (hs : s.size ≤ 1000) (hk : k + x.size ≤ s.size) :
  Calls Tryz.prog 108 #[.pointer (some ⟨b, 0, none⟩), .string x] w fun e w' => e = .returned (.tuple #[]) ∧ Mv b w w' ∧ RR b s (nextP s (k + x.size)) false far w' := by
 have h1 := hr.at
 have hf := hr.free 1
 have H := hide hr
 clear hr
 go_enter Tryz.func108, Tryz.ntmps108
 go_wp2_with fail
 refine (rblanks_ok b s (k + x.size) far _ (by rw [show ((k : Int) + x.size) = ((k + x.size : Nat) : Int) from by omega]; exact (uh H).setAt (k + x.size)) hs (by omega)).mono ?_
 rintro e w2 ⟨rfl, hm, hr2⟩
 have HM := hide (((Mv.refl b w).set _ _).trans hm)
 have HR := hide hr2
 clear hm hr2
 go_wp2
 go_end0
 exact ⟨rfl, uh HM, uh HR⟩
theorem ext_size {s : ByteArray} {i j : Nat} (h : i ≤ j) (hj : j ≤ s.size) : (s.extract i j).size = j - i := by
 rw [ByteArray.size_extract]; omega
theorem isNameB_no {x : ByteArray} (h : isNameB x = false) : x.toList.isEmpty = true ∨ (x.size : Int) > 8 ∨ (x.toList == [105, 110]) = true ∨ (x.toList == [116, 97, 98, 108, 101]) = true ∨ (x.toList == [110, 111, 110, 101]) = true ∨ (x.toList == [99, 108, 97, 115, 104]) = true := by
 unfold isNameB at h
 simp only [Bool.and_eq_false_iff, Bool.not_eq_false', decide_eq_false_iff_not] at h
 rcases h with ((((h | h) | h) | h) | h) | h
 ·exact .inl h
 ·exact .inr (.inr (.inl h))
 ·exact .inr (.inr (.inr (.inl h)))
 ·exact .inr (.inr (.inr (.inr (.inl h))))
 ·exact .inr (.inr (.inr (.inr (.inr h))))
 ·exact .inr (.inl (by omega))
set_option maxHeartbeats 800000 in
theorem rname_yes (b : Nat) (s : ByteArray) (k : Nat) (far : Bool) (w : World) (hr : RR b s k false far w) (hs : s.size ≤ 1000) (hk : k ≤ s.size) (hb : nextP s k = k) {x : ByteArray} {q : Nat} (h : nameR s k = .inr (x, q)) :
  Calls Tryz.prog 139 #[.pointer (some ⟨b, 0, none⟩)] w fun e w' => e = .returned (.string x) ∧ Mv b w w' ∧ RR b s (nextP s q) false far w' := by
 unfold nameR at h
 rw [hb] at h
 split at h
 case isFalse => cases h
 rename_i hn
 simp only [Sum.inr.injEq, Prod.mk.injEq] at h
 obtain ⟨h1, h2⟩ := h
 have hle := lowEnd_le hk
 have hge := lowEnd_ge s k
 have hsz : k + x.size = q := by rw [← h1, ext_size hge hle]; omega
 rw [h1] at hn
 rw [h2] at hle
 have HE : Hid (s.extract k (lowEnd s k) = x) := h1
 clear h1 h2 hge
 unfold isNameB at hn
 simp only [Bool.and_eq_true, Bool.not_eq_true', decide_eq_true_eq] at hn
 obtain ⟨⟨⟨⟨⟨n0, n1⟩, n2⟩, n3⟩, n4⟩, n5⟩ := hn
 have n6 : decide ((8 : Int) < x.size) = false := by simp; omega
 have H := hide hr
 clear hr
 go_enter Tryz.func139, Tryz.ntmps139
 go_wp2_with (go_at_call 107; refine (rword_ok _ _ k far _ (by exact uh H) hs hk).mono ?_; rintro e w1 ⟨rfl, hw⟩; rw [uh HE]; subst hw)
 refine (rpass_ok b s k x far _ (uh H) hs (by omega)).mono ?_
 rintro e w2 ⟨rfl, hm, hr2⟩
 rw [hsz] at hr2
 have HM := hide hm
 have HR := hide hr2
 clear hm hr2
 go_wp2
 go_ret
 exact ⟨rfl, uh HM, uh HR⟩
set_option maxHeartbeats 800000 in
theorem rname_not (b : Nat) (s : ByteArray) (k : Nat) (bad far : Bool) (x : ByteArray) (w : World) (hr : RR b s k bad far w)
  (hw : Calls Tryz.prog 107 #[.pointer (some ⟨b, 0, none⟩)] w fun e w' => e = .returned (.string x) ∧ w' = w) (h : isNameB x = false) :
  Calls Tryz.prog 139 #[.pointer (some ⟨b, 0, none⟩)] w fun e w' => e = .returned (.string ByteArray.empty) ∧ Mv b w w' ∧ RR b s k true far w' := by
 have h2 := hr.badC
 have hf := hr.free 2
 have H := hide hr
 clear hr
 have HW := hide hw
 clear hw
 have fin : ∀ (w' : World), w' = w.setCell ⟨b, 2, none⟩ (.bool true) → Mv b w w' ∧ RR b s k true far w' := by
  rintro _ rfl
  exact ⟨(Mv.refl b w).set _ _, (uh H).setBad true⟩
 have FIN := hide fin
 clear fin
 cases c0 : x.toList.isEmpty with
 | true =>
  go_enter Tryz.func139, Tryz.ntmps139
  go_wp2_with (go_at_call 107; refine (uh HW).mono ?_; rintro e w1 ⟨rfl, hw⟩; subst hw)
  go_ret
  exact ⟨rfl, uh FIN _ rfl⟩
 | false =>
  by_cases c1 : (8 : Int) < x.size
  ·have c1b : decide ((8 : Int) < x.size) = true := by simpa using c1
   go_enter Tryz.func139, Tryz.ntmps139
   go_wp2_with (go_at_call 107; refine (uh HW).mono ?_; rintro e w1 ⟨rfl, hw⟩; subst hw)
   go_ret
   exact ⟨rfl, uh FIN _ rfl⟩
  ·have c1b : decide ((8 : Int) < x.size) = false := by simpa using c1
   cases c2 : (x.toList == [105, 110]) with
   | true =>
    go_enter Tryz.func139, Tryz.ntmps139
    go_wp2_with (go_at_call 107; refine (uh HW).mono ?_; rintro e w1 ⟨rfl, hw⟩; subst hw)
    go_ret
    exact ⟨rfl, uh FIN _ rfl⟩
   | false =>
    cases c3 : (x.toList == [116, 97, 98, 108, 101]) with
    | true =>
     go_enter Tryz.func139, Tryz.ntmps139
     go_wp2_with (go_at_call 107; refine (uh HW).mono ?_; rintro e w1 ⟨rfl, hw⟩; subst hw)
     go_ret
     exact ⟨rfl, uh FIN _ rfl⟩
    | false =>
     cases c4 : (x.toList == [110, 111, 110, 101]) with
     | true =>
      go_enter Tryz.func139, Tryz.ntmps139
      go_wp2_with (go_at_call 107; refine (uh HW).mono ?_; rintro e w1 ⟨rfl, hw⟩; subst hw)
      go_ret
      exact ⟨rfl, uh FIN _ rfl⟩
     | false =>
      cases c5 : (x.toList == [99, 108, 97, 115, 104]) with
      | true =>
       go_enter Tryz.func139, Tryz.ntmps139
       go_wp2_with (go_at_call 107; refine (uh HW).mono ?_; rintro e w1 ⟨rfl, hw⟩; subst hw)
       go_ret
       exact ⟨rfl, uh FIN _ rfl⟩
      | false =>
       exfalso
       rcases isNameB_no h with h | h | h | h | h | h
       ·rw [c0] at h; cases h
       ·omega
       ·rw [c2] at h; cases h
       ·rw [c3] at h; cases h
       ·rw [c4] at h; cases h
       ·rw [c5] at h; cases h
theorem rname_no (b : Nat) (s : ByteArray) (k : Nat) (far : Bool) (w : World) (hr : RR b s k false far w) (hs : s.size ≤ 1000) (hk : k ≤ s.size) (hb : nextP s k = k) {p : Nat} (h : nameR s k = .inl p) :
  Calls Tryz.prog 139 #[.pointer (some ⟨b, 0, none⟩)] w fun e w' => e = .returned (.string ByteArray.empty) ∧ Mv b w w' ∧ RR b s p true far w' := by
 unfold nameR at h
 rw [hb] at h
 split at h
 case isTrue => cases h
 rename_i hn
 simp only [Sum.inl.injEq] at h
 subst h
 exact rname_not b s k false far _ w hr (rword_ok b s k far w hr hs hk) (by simpa using hn)
theorem isNameB_empty : isNameB ByteArray.empty = false := by
 have h : ByteArray.empty.toList = [] := by first | rfl | decide | simp | (unfold ByteArray.toList ByteArray.toList.loop; rfl)
 simp [isNameB, h]
theorem rname_bad (b : Nat) (s : ByteArray) (k : Nat) (far : Bool) (w : World) (hr : RR b s k true far w) (hs : s.size ≤ 1000) :
  Calls Tryz.prog 139 #[.pointer (some ⟨b, 0, none⟩)] w fun e w' => e = .returned (.string ByteArray.empty) ∧ Mv b w w' ∧ RR b s k true far w' :=
 rname_not b s k true far _ w hr (rword_bad b s k far w hr hs) isNameB_empty
end Go.Proofs.YthnggjaecngbiaaGreatDoor
