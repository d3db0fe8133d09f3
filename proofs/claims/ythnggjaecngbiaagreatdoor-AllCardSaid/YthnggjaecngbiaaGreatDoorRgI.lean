import Derived.Test.YthnggjaecngbiaaGreatDoorRgG
namespace Go.Proofs.YthnggjaecngbiaaGreatDoor
open Go.RowKit
theorem bits_and7 {a b : Nat} (ha : a ≤ 7) (hb : b ≤ 7) : bits .and .i64 (a : Int) (7 - (b : Int)) = ((a &&& (7 - b) : Nat) : Int) := by
 have key : ∀ a : Fin 8, ∀ b : Fin 8, bits .and .i64 ((a.val : Nat) : Int) (7 - ((b.val : Nat) : Int)) = ((a.val &&& (7 - b.val) : Nat) : Int) := by decide
 exact key ⟨a, by omega⟩ ⟨b, by omega⟩
theorem colVals_all {its : List PItem} {vals : List Int} (ok : OkPlan its) {j : Nat} (h : j < its.length) : colVals its ((resP its vals).map Prod.fst) its[j] = colVals its ((resTo its vals j).map Prod.fst) its[j] := by
 unfold colVals
 apply List.map_congr_left
 intro c hc
 obtain ⟨i, h1, h2⟩ := ok.ahead j h c hc
 rw [h1, Int.toNat_natCast]
 have := resTo_get (its := its) (vals := vals) (PVal.zero, []) (Nat.le_of_lt h) h2
 have e1 : ((resP its vals).map Prod.fst).getD i PVal.zero = ((resP its vals).getD i (PVal.zero, [])).1 := by
  rw [List.getD_eq_getElem?_getD, List.getD_eq_getElem?_getD, List.getElem?_map]
  cases (resP its vals)[i]? <;> rfl
 have e2 : ((resTo its vals j).map Prod.fst).getD i PVal.zero = ((resTo its vals j).getD i (PVal.zero, [])).1 := by
  rw [List.getD_eq_getElem?_getD, List.getD_eq_getElem?_getD, List.getElem?_map]
  cases (resTo its vals j)[i]? <;> rfl
 rw [e1, e2, this]
set_option maxRecDepth 100000 in
set_option maxHeartbeats 6400000 in
theorem rExplain_any (g : Nat) (its : List PItem) (clear : Int) (vl : Value) (vals : List Int) (w : World) (h : RPlanAt w g its) (hv : InSl w vl vals) :
  Calls Tryz.prog 85 #[.pointer (some ⟨g, 0, none⟩), .int .i64 clear, vl] w fun e w' => e = .returned (.tuple #[.string ⟨(explR its clear vals).1.toArray⟩, .int .i64 (explR its clear vals).2]) ∧ Below w.heap.size w w' := by
 have HP := hide h
 obtain ⟨pv, xs, hN, hit, hxs, hwf, hok⟩ := h
 obtain ⟨vo, vc, rfl⟩ := hv.form
 obtain ⟨po, pcap, rfl⟩ := hit.1.form
 have hlen : xs.length ≤ 12 := by have := hok.len; rw [← hxs] at this; simpa using this
 have hxl : xs.length = its.length := by rw [← hxs]; simp
 have HV := hide hv
 have HX := hide hxs
 have HI := hide hit
 have HOK := hide hok
 have HWF := hide hwf
 have HXL := hide hxl
 have hcell : ∀ (w' : World) (j : Nat) (hj : j < xs.length), Below w.heap.size w w' → ∃ gi, po = some ⟨gi, 0, none⟩ ∧ gi < w.heap.size ∧ (w'.cell? ⟨gi, j * 6, none⟩ = some (.string xs[j].it.name) ∧ w'.cell? ⟨gi, j * 6 + 1, none⟩ = some (.int .i64 (rmarks xs[j].it)) ∧ w'.cell? ⟨gi, j * 6 + 2, none⟩ = some (.int .u8 xs[j].it.policy) ∧ w'.cell? ⟨gi, j * 6 + 3, none⟩ = some (.bool (rdrops xs[j].it)) ∧ w'.cell? ⟨gi, j * 6 + 4, none⟩ = some xs[j].cv ∧ w'.cell? ⟨gi, j * 6 + 5, none⟩ = some xs[j].rv) := fun w' j hj hb => by
  rcases hit.1 with ⟨h0, _⟩ | ⟨gi, cap, hv, hc, hm, hgl, hx⟩
  ·omega
  simp only [Value.slice.injEq] at hv
  obtain ⟨rfl, _, rfl⟩ := hv
  exact ⟨gi, rfl, hgl, ritem_cells hit.1 hb hj⟩
 have HCELL := hide hcell
 have hgs := lt_of_block hN
 have c0 : w.cell? ⟨g, 0, none⟩ = some (.slice po xs.length pcap) := by simp [World.cell?, hN]
 have HC0 : Hid (∀ w', Below w.heap.size w w' → w'.cell? ⟨g, 0, none⟩ = some (.slice po xs.length pcap)) := hide (fun w' hb => (hb.cell (p := ⟨g, 0, none⟩) hgs).trans c0)
 clear hv hN hit hxs hok hwf hcell
 go_enter Tryz.func85, Tryz.ntmps85
 go_wp2_with fail
 refine (rall_any g its _ vals _ (uh HP) (uh HV)).mono ?_
 rintro e w1 (⟨hf, rfl, hb1⟩ | ⟨hf, lo, lc, rfl, hb1, hown⟩)
 ·have HE : Hid (explR its clear vals = ([], 7)) := hide (by unfold explR; rw [if_neg (by rw [hf]; simp)])
  have HB1 := hide hb1
  clear hf hb1
  go_wp2_with fail
  go_ret2
  rw [uh HE]
  exact ⟨rfl, uh HB1⟩
 ·by_cases hc0 : clear < 0
  ·have HE : Hid (explR its clear vals = ([], 7)) := hide (by unfold explR; rw [if_neg (by omega)])
   have HB1 := hide hb1
   clear hf hb1 hown
   go_wp2_with fail
   go_ret2
   rw [uh HE]
   exact ⟨rfl, uh HB1⟩
  by_cases hc7 : 7 < clear
  ·have HE : Hid (explR its clear vals = ([], 7)) := hide (by unfold explR; rw [if_neg (by omega)])
   have HB1 := hide hb1
   clear hf hb1 hown
   go_wp2_with fail
   go_ret2
   rw [uh HE]
   exact ⟨rfl, uh HB1⟩
  obtain ⟨cl, rfl⟩ : ∃ cl : Nat, clear = (cl : Int) := ⟨clear.toNat, by omega⟩
  have hcl : cl ≤ 7 := by omega
  have HE : Hid (explR its cl vals = (explainP its cl vals, 0)) := hide (by unfold explR; rw [if_pos ⟨⟨by omega, by omega⟩, hf⟩, Int.toNat_natCast])
  have HFB := hide (fits_bd hf)
  have HB1 := hide hb1
  have HL := hide (SlAt.of_owns hown)
  have hrl : (resP its vals).length = its.length := resTo_len its vals _
  have hll : (labsP its).length = its.length := labsTo_len its _
  rw [← hxl] at HL ⊢
  have hsw1 := hb1.size
  have HRL := hide hrl
  have HLL := hide hll
  clear hf hb1 hown hxl hrl hll
  go_wp2_with fail
  go_loopg [10, 11] xs.length (fun gk sv iv wr => ∃ (j : Nat) (d : ByteArray), j ≤ xs.length ∧ gk = xs.length - j ∧ iv = .int .i64 (j : Int) ∧ sv = .string d ∧ d.data.toList = toldTo its (labsP its) (resP its vals) cl j ∧ Below w1.heap.size w1 wr)
  case atStart => exact ⟨0, _, by omega, rfl, rfl, rfl, rfl, Below.refl _ _⟩
  case round =>
   obtain ⟨j, d, hj, hg, rfl, rfl, hd, hb⟩ := hrel
   have A : Aside (gk = xs.length - j ∧ d.data.toList = toldTo its (labsP its) (resP its vals) cl j ∧ Below w1.heap.size w1 wr) := ⟨hg, hd, hb⟩
   have hbw := below_after (uh HB1) hb
   have c0' := uh HC0 wr hbw
   have hgs' : g < wr.heap.size := Nat.lt_of_lt_of_le hgs hbw.size
   have hds : d.size ≤ 12000 := by
    have h1 := toldTo_len (uh HOK) (uh HFB).2 cl j (by have := uh HXL; omega)
    rw [← hd] at h1
    have h2 : d.data.toList.length = d.size := by simp
    omega
   clear hg hd
   by_cases hlt : j < xs.length
   ·obtain ⟨gi, rfl, hgi, k0, k1, k2, k3, k4, k5⟩ := uh HCELL wr j hlt hbw
    have hgi' : gi < wr.heap.size := Nat.lt_of_lt_of_le hgi hbw.size
    have hji : j < its.length := by have := uh HXL; omega
    have hjr : j < (resP its vals).length := by rw [uh HRL]; exact hji
    have hjl : j < (labsP its).length := by rw [uh HLL]; exact hji
    have hxe : its[j] = xs[j].it := by simp [← uh HX]
    have hstep : toldTo its (labsP its) (resP its vals) cl (j + 1) = toldTo its (labsP its) (resP its vals) cl j ++ lineOut xs[j].it ((labsP its).getD j 0) cl (resP its vals)[j] := by
     rw [toldTo, getD_at its noItem hji, hxe, getD_at (resP its vals) _ hjr]
    have h7 : (labsP its).getD j 0 ≤ 7 := getD_le7 (labsTo_le (fun it hi => ((uh HOK).marks it hi).1) _) j
    have hbd := res_bd (uh HOK) (uh HFB).2 _ (Nat.le_refl _) (resP its vals)[j] (List.getElem_mem hjr)
    have hra := resP_at (its := its) (vals := vals) hji
    rw [getD_at (resP its vals) _ hjr] at hra
    have hca := colVals_all (vals := vals) (uh HOK) hji
    have hcan := can_pol ((uh HOK).can its[j] (List.getElem_mem hji))
    have hpos : its[j].isT = true → 0 < its[j].policy := fun hT => by
     rcases (uh HOK).can its[j] (List.getElem_mem hji) with hc | hc
     ·have := hc.isT
      rw [hT] at this
      cases this
     ·have := hc.pol
      unfold isPol at this
      simp only [decide_eq_true_eq] at this
      omega
    have hclen := (uh HOK).clen its[j] (List.getElem_mem hji)
    have hrlen := (uh HOK).rlen its[j] (List.getElem_mem hji)
    have hwid := (uh HOK).width its[j] (List.getElem_mem hji)
    have hahd := (uh HOK).ahead j hji
    have hnml := (uh HOK).nameLen its[j] (List.getElem_mem hji)
    obtain ⟨g3, rfl, l0, l1, hg3⟩ := ((uh HL).below hb).at2 hlt
    have hv0 := flat_at vcells 2 (fun _ => rfl) ((resP its vals).map Prod.fst) j 0 (by simpa using hjr) (by omega)
    have hv1 := flat_at vcells 2 (fun _ => rfl) ((resP its vals).map Prod.fst) j 1 (by simpa using hjr) (by omega)
    rw [Nat.add_zero] at hv0
    rw [hv0] at l0
    rw [hv1] at l1
    simp only [vcells, List.getElem?_cons_zero, List.getElem?_cons_succ, List.getElem_map] at l0 l1
    have HLAB : Hid (∀ w', RPlanAt w' g its → Calls Tryz.prog 79 #[.pointer (some ⟨g, 0, none⟩), .int .i64 (j : Int)] w' fun e w'' => e = .returned (.int .i64 (((labsP its).getD j 0 : Nat) : Int)) ∧ Below w'.heap.size w' w'') := hide (fun w' h => rlabel_any g its j w' h hji)
    rw [hxe] at hra hca hcan hpos hclen hrlen hwid hahd hnml
    have hwi := uh HWF xs[j] (List.getElem_mem hlt)
    have hxv := (uh HI).2 xs[j] (List.getElem_mem hlt)
    have hjc : (j : Int) < xs.length := by omega
    generalize xs[j] = x at *
    obtain ⟨co, cc, hcv⟩ := hxv.2.1.form
    obtain ⟨ro, rc, hrv⟩ := hxv.2.2.1.form
    rw [hcv] at k4
    rw [hrv] at k5
    have hriv : riv x = .agg #[.string x.it.name, .int .i64 (rmarks x.it), .int .u8 x.it.policy, .bool (rdrops x.it), .slice co x.it.cols.length cc, .slice ro x.it.rules.length rc] := by
     unfold riv ricells
     rw [hcv, hrv]
    obtain ⟨vs, hvs⟩ : ∃ vs, (resP its vals).map Prod.fst = vs := ⟨_, rfl⟩
    have hvlen : vs.length = xs.length := by rw [← hvs, List.length_map, uh HRL, uh HXL]
    rw [hvs] at HL hca
    have HCOLS : Hid (∀ (w' : World) (bv : Value), RPlanAt w' g its → RItemV w' x → SlAt w' 2 bv vs.length (vs.flatMap vcells) → Calls Tryz.prog 118 #[.pointer (some ⟨g, 0, none⟩), .agg #[.string x.it.name, .int .i64 (rmarks x.it), .int .u8 x.it.policy, .bool (rdrops x.it), .slice co x.it.cols.length cc, .slice ro x.it.rules.length rc], bv] w' fun e w'' => ∃ v, e = .returned v ∧ Below w'.heap.size w' w'' ∧ w''.ownsRow w'.heap.size 51 2 v (colVals its vs x.it).length ((colVals its vs x.it).flatMap vcells)) := hide (fun w' bv h1 h2 h3 => by
     rw [← hriv]
     exact rcolumns_any g its x bv vs w' h1 h2 hclen h3 (by omega) (fun c hc => by
      obtain ⟨i, h4, h5⟩ := hahd c hc
      exact ⟨i, h4, by omega⟩))
    have HMET : Hid (∀ (w' : World) (bv : Value), RItemV w' x → SlAt w' 2 bv (colVals its vs x.it).length ((colVals its vs x.it).flatMap vcells) → Calls Tryz.prog 117 #[.agg #[.string x.it.name, .int .i64 (rmarks x.it), .int .u8 x.it.policy, .bool (rdrops x.it), .slice co x.it.cols.length cc, .slice ro x.it.rules.length rc], bv] w' fun e w'' => ∃ v, e = .returned v ∧ Below w'.heap.size w' w'' ∧ w''.ownsRow w'.heap.size 3 1 v (metP x.it.rules (colVals its vs x.it)).length (nats (metP x.it.rules (colVals its vs x.it)))) := hide (fun w' bv h1 h2 => by
     rw [← hriv]
     exact rmet_any x bv _ w' h1 (by omega) (fun r hr => ⟨by rw [colVals_len]; exact hwid r hr, (hwi.rules r hr).tests⟩) h2 (by rw [colVals_len]; omega))
    have HQM : Hid (x.it.isT = true → (resP its vals)[j].2 = metP x.it.rules (colVals its vs x.it)) := hide (fun hT => by
     rw [hra, hT, if_pos rfl, hca]
     rfl)
    obtain ⟨q, hq⟩ : ∃ q, (resP its vals)[j] = q := ⟨_, rfl⟩
    rw [hq] at hstep hbd l0 l1 HQM
    obtain ⟨lab, hlab⟩ : ∃ lab, (labsP its).getD j 0 = lab := ⟨_, rfl⟩
    rw [hlab] at hstep h7 HLAB
    have hand := bits_and7 h7 hcl
    have hrd : rdrops x.it = (x.it.isT && decide (x.it.drops ≠ 0)) := rfl
    have HXV := hide hxv
    have HST := hide hstep
    have HBW := hide hbw
    have HRD := hide hrd
    obtain ⟨⟨y0, y1⟩, qm⟩ := q
    simp only at hbd l0 l1 HQM
    clear hriv hcv hrv hxv hstep hahd hwid hwi hxe hclen hrlen hra hca hlab hq hv0 hv1 hvs hb hbw hrd
    generalize rmarks x.it = mi at *
    generalize x.it.cols.length = cn at *
    generalize x.it.rules.length = rn at *
    obtain ⟨nm, hnm⟩ : ∃ nm, x.it.name = nm := ⟨_, rfl⟩
    obtain ⟨db, hdb⟩ : ∃ db, rdrops x.it = db := ⟨_, rfl⟩
    obtain ⟨pol, hpol⟩ : ∃ pol, x.it.policy = pol := ⟨_, rfl⟩
    rw [hnm] at k0 hnml HCOLS HMET
    rw [hdb] at k3 HCOLS HMET HRD
    rw [hpol] at k2 HCOLS HMET hcan hpos
    have HNM := hide hnm
    clear hnm hdb hpol
    obtain ⟨w2, hw2⟩ : ∃ w2, w2 = wr.alloc (.cells #[.string nm, .int .i64 mi, .int .u8 pol, .bool db, .slice co cn cc, .slice ro rn rc] 141) := ⟨_, rfl⟩
    have HB2 : Hid (Below wr.heap.size wr w2) := hide (by rw [hw2]; exact (Below.refl _ wr).alloc (Nat.le_refl _) _)
    have HN2 : Hid (w2.heap[wr.heap.size]? = some (.cells #[.string nm, .int .i64 mi, .int .u8 pol, .bool db, .slice co cn cc, .slice ro rn rc] 141)) := hide (by rw [hw2]; exact alloc_last wr _)
    have hl0 : ∀ w', Below wr.heap.size wr w' → w'.cell? ⟨g3, j * 2, none⟩ = some (.int .i64 y0) ∧ w'.cell? ⟨g3, j * 2 + 1, none⟩ = some (.int .i64 y1) := fun w' hb' => ⟨(hb'.cell (p := ⟨g3, j * 2, none⟩) hg3).trans l0, (hb'.cell (p := ⟨g3, j * 2 + 1, none⟩) hg3).trans l1⟩
    have HL0 := hide hl0
    have HXC : Hid (∀ w', Below w2.heap.size w2 w' → w'.cell? ⟨wr.heap.size, 0, none⟩ = some (.string nm) ∧ w'.cell? ⟨wr.heap.size, 1, none⟩ = some (.int .i64 mi) ∧ w'.cell? ⟨wr.heap.size, 2, none⟩ = some (.int .u8 pol) ∧ w'.cell? ⟨wr.heap.size, 3, none⟩ = some (.bool db) ∧ w'.cell? ⟨wr.heap.size, 4, none⟩ = some (.slice co cn cc) ∧ w'.cell? ⟨wr.heap.size, 5, none⟩ = some (.slice ro rn rc)) := hide (fun w' hb' => cells6b ((hb'.block _ (lt_of_block (uh HN2))).trans (uh HN2)))
    have hsn2 := lt_of_block (uh HN2)
    clear hl0
    go_wp2_with fail
    rw [← hw2]
    clear hw2 k0 k1 k2 k3 k4 k5 l0 l1
    refine (uh HLAB _ ((uh HP).below (below_after (uh HBW) (uh HB2)))).mono ?_
    rintro e w3 ⟨rfl, hb3⟩
    have HB3 := hide hb3
    have HR3 := hide (below_after (uh HB2) hb3)
    obtain ⟨s0, s1, s2, s3, s4, s5⟩ := uh HXC _ hb3
    obtain ⟨l0, l1⟩ := uh HL0 _ (uh HR3)
    have hsn3 : wr.heap.size < w3.heap.size := Nat.lt_of_lt_of_le hsn2 hb3.size
    have hg33 : g3 < w3.heap.size := Nat.lt_of_lt_of_le hg3 (uh HR3).size
    obtain ⟨d1, hd1⟩ : ∃ d1, d ++ nm ++ ⟨#[32]⟩ = d1 := ⟨_, rfl⟩
    have hd1s : d1.size ≤ 12009 := by rw [← hd1, ByteArray.size_append, ByteArray.size_append]; show d.size + nm.size + 1 ≤ 12009; omega
    have HD1 : Hid (d1.data.toList = d.data.toList ++ nm.data.toList ++ [32]) := hide (by rw [← hd1]; simp)
    rw [hd1]
    clear hd1 hb3
    cases hs : seenB lab cl with
    | false =>
     have hne : (((lab &&& (7 - cl) : Nat) : Int) != 0) = true := by
      unfold seenB at hs
      rw [bne_iff_ne]
      simp only [decide_eq_false_iff_not] at hs
      omega
     have HS := hide hs
     clear hs
     go_wp2_with fail
     go_roundg (xs.length - (j + 1))
     case measure => have := A.out.1; omega
     case rel =>
      refine ⟨j + 1, _, by omega, rfl, by go_num, rfl, ?_, below_after A.out.2.2 (uh HR3)⟩
      rw [uh HST]
      unfold lineOut
      rw [uh HS, if_neg (by simp), uh HNM]
      simp [uh HD1, A.out.2.1]
    | true =>
     have hne : (((lab &&& (7 - cl) : Nat) : Int) != 0) = false := by
      unfold seenB at hs
      simp only [decide_eq_true_eq] at hs
      rw [hs]
      rfl
     have HS := hide hs
     clear hs
     go_wp2_with fail
     refine (rshown_any ⟨y0, y1⟩ w3 (by simp only; omega) (by simp only; omega)).mono ?_
     rintro e w4 ⟨rfl, hb4⟩
     have hshl := shownOut_len (p := ⟨y0, y1⟩) (by simp only; omega) (by simp only; omega)
     obtain ⟨sh, hsh⟩ : ∃ sh : ByteArray, (⟨(shownOut ⟨y0, y1⟩).toArray⟩ : ByteArray) = sh := ⟨_, rfl⟩
     have hshs : sh.size ≤ 8 := by rw [← hsh]; show (shownOut ⟨y0, y1⟩).toArray.size ≤ 8; rw [List.size_toArray]; exact hshl
     have HSH : Hid (sh.data.toList = shownOut ⟨y0, y1⟩) := hide (by rw [← hsh])
     rw [hsh]
     have HB4 := hide (below_after (uh HB3) hb4)
     have HR4 := hide (below_after (uh HR3) hb4)
     clear hsh hshl hb4 s0 s1 s2 s3 s4 s5 l0 l1
     obtain ⟨s0, s1, s2, s3, s4, s5⟩ := uh HXC _ (uh HB4)
     have hsn4 : wr.heap.size < w4.heap.size := Nat.lt_of_lt_of_le hsn2 (uh HB4).size
     cases hT : x.it.isT with
     | false =>
      have hpol : pol = 0 := by
       rcases hcan with ⟨h1, _⟩ | ⟨_, h2⟩
       ·rw [hT] at h1; cases h1
       ·exact h2
      subst hpol
      have HKN : Hid (knownOut x.it (⟨y0, y1⟩, qm) = shownOut ⟨y0, y1⟩) := hide (by unfold knownOut; rw [hT]; simp)
      clear hT hcan hpos
      go_wp2_with fail
      go_roundg (xs.length - (j + 1))
      case measure => have := A.out.1; omega
      case rel =>
       refine ⟨j + 1, _, by omega, rfl, by go_num, rfl, ?_, below_after A.out.2.2 (uh HR4)⟩
       rw [uh HST]
       unfold lineOut
       rw [uh HS, if_pos rfl, uh HNM, uh HKN]
       simp [uh HD1, A.out.2.1, uh HSH]
     | true =>
      have hpp := hpos hT
      have hdb := uh HRD
      rw [hT, Bool.true_and] at hdb
      have hqm := uh HQM hT
      by_cases hdr : x.it.drops = 0
      ·have hdbf : db = false := by rw [hdb]; simp [hdr]
       subst hdbf
       have HKN : Hid (knownOut x.it (⟨y0, y1⟩, qm) = shownOut ⟨y0, y1⟩ ++ ([32] ++ [91] ++ rulesTold false qm ++ [93])) := hide (by unfold knownOut; rw [hT]; simp [hdr])
       have hq8 : qm.length ≤ 8 := hbd.2.1
       have HQ8 := hide hbd.2.2
       have HCE : Hid (∀ w', Below w4.heap.size w4 w' → w'.cell? ⟨wr.heap.size, 0, none⟩ = some (.string nm) ∧ w'.cell? ⟨wr.heap.size, 1, none⟩ = some (.int .i64 mi) ∧ w'.cell? ⟨wr.heap.size, 2, none⟩ = some (.int .u8 pol) ∧ w'.cell? ⟨wr.heap.size, 3, none⟩ = some (.bool false) ∧ w'.cell? ⟨wr.heap.size, 4, none⟩ = some (.slice co cn cc) ∧ w'.cell? ⟨wr.heap.size, 5, none⟩ = some (.slice ro rn rc)) := hide (fun w' hb' => uh HXC _ (below_after (uh HB4) hb'))
       have HB04 := hide (below_after (uh HBW) (uh HR4))
       have HSO : Hid (SlAt w4 2 (.slice (some ⟨g3, 0, none⟩) xs.length lc) vs.length (vs.flatMap vcells)) := hide (by rw [hvlen]; exact (uh HL).below (below_after A.out.2.2 (uh HR4)))
       rw [← hqm] at HMET
       clear hT hcan hpos hdb hdr hqm hbd
       go_wp2_with fail
       go_region_held3 (fun w' => w'.cell? ⟨wr.heap.size, 0, none⟩ = some (.string nm) ∧ w'.cell? ⟨wr.heap.size, 1, none⟩ = some (.int .i64 mi) ∧ w'.cell? ⟨wr.heap.size, 2, none⟩ = some (.int .u8 pol) ∧ w'.cell? ⟨wr.heap.size, 3, none⟩ = some (.bool false) ∧ w'.cell? ⟨wr.heap.size, 4, none⟩ = some (.slice co cn cc) ∧ w'.cell? ⟨wr.heap.size, 5, none⟩ = some (.slice ro rn rc)) (go_keep) (first | (go_at_call 118; refine (uh HCOLS _ _ ((uh HP).below (uh HB04).drew) ((uh HXV).below (uh HB04).drew) ((uh HSO).below (Below.refl _ _).drew)).mono ?_; rintro e w5 ⟨cv5, rfl, hb5, ho5⟩; have HB5 := hide (below_of_drew hb5); have HO5 := hide ho5; obtain ⟨z0, z1, z2, z3, z4, z5⟩ := uh HCE _ (uh HB5); clear hb5 ho5) | (go_at_call 117; refine (uh HMET _ _ ((uh HXV).below (below_after (uh HB04) (uh HB5))) (SlAt.of_owns (uh HO5))).mono ?_; rintro e w6 ⟨lv6, rfl, hb6, ho6⟩; obtain ⟨mo, mc, rfl⟩ := (SlAt.of_owns ho6).form; have HB6 := hide (below_after (uh HB5) hb6); have HO6 := hide (SlAt.of_owns ho6); obtain ⟨t0, t1, t2, t3, t4, t5⟩ := uh HCE _ (uh HB6); clear hb6 ho6))
       clear z0 z1 z2 z3 z4 z5 s0 s1 s2 s3 s4 s5 t0 t1 t2 t3 t4 t5
       go_wp2_with fail
       obtain ⟨d4, hd4⟩ : ∃ d4, d1 ++ sh ++ ⟨#[32, 91]⟩ = d4 := ⟨_, rfl⟩
       have hd4s : d4.size ≤ 12019 := by rw [← hd4, ByteArray.size_append, ByteArray.size_append]; show d1.size + sh.size + 2 ≤ 12019; omega
       have HD4 : Hid (d4.data.toList = d.data.toList ++ nm.data.toList ++ [32] ++ shownOut ⟨y0, y1⟩ ++ [32, 91]) := hide (by rw [← hd4]; simp [uh HD1, uh HSH])
       have HR6 := hide (below_after (uh HR4) (uh HB6))
       go_loopg [10, 14] qm.length (fun gk sv iv wx => ∃ (m : Nat) (d3 : ByteArray), m ≤ qm.length ∧ gk = qm.length - m ∧ iv = .int .i64 (m : Int) ∧ sv = .string d3 ∧ d3.data.toList = d4.data.toList ++ rulesTold false (qm.take m) ∧ Below w6.heap.size w6 wx)
       case atStart => exact ⟨0, _, by omega, rfl, rfl, rfl, by rw [hd4]; simp [rulesTold], Below.refl _ _⟩
       case round =>
        clear hd4
        obtain ⟨m, d3, hm, hg, rfl, rfl, hd3, hb⟩ := hrel
        have B : Aside (gk = qm.length - m ∧ d3.data.toList = d4.data.toList ++ rulesTold false (qm.take m) ∧ Below w6.heap.size w6 wr) := ⟨hg, hd3, hb⟩
        have hd3s : d3.size ≤ 12100 := by
         have h1 := rulesTold_len false (qm.take m) (fun i hi => by have := uh HQ8 i (List.mem_of_mem_take hi); omega)
         have h2 : d3.data.toList.length = d3.size := by simp
         have h3 : d4.data.toList.length = d4.size := by simp
         rw [← h2, hd3, List.length_append]
         rw [List.length_take] at h1
         omega
        clear hg hd3
        by_cases hmt : m < qm.length
        ·obtain ⟨g6, rfl, n0, hg6⟩ := ((uh HO6).below hb).at1 hmt
         rw [show (nats qm)[m]? = some (.int .i64 ((qm[m] : Nat) : Int)) by simp [nats, hmt]] at n0
         have HTK : Hid (rulesTold false (qm.take (m + 1)) = rulesTold false (qm.take m) ++ (if qm.take m = [] then [] else [32]) ++ Lib.itoa ((qm[m] : Int) + 1)) := hide (by
          rw [List.take_succ_eq_append_getElem hmt, rulesTold_snoc]
          simp)
         have HTE : Hid (qm.take m = [] ↔ m = 0) := hide (by
          rw [List.take_eq_nil_iff]
          constructor
          ·rintro (h | h)
           ·exact h
           ·rw [h] at hmt; simp at hmt
          ·exact Or.inl)
         have hqi := uh HQ8 qm[m] (List.getElem_mem hmt)
         have hmc : (m : Int) < qm.length := by omega
         generalize qm[m] = qi at *
         have hil := itoa_len (n := (qi : Int) + 1) (by omega) (by omega)
         obtain ⟨si, hsi⟩ : ∃ si : ByteArray, (⟨(Lib.itoa ((qi : Int) + 1)).toArray⟩ : ByteArray) = si := ⟨_, rfl⟩
         have hsis : si.size ≤ 8 := by rw [← hsi]; show (Lib.itoa ((qi : Int) + 1)).toArray.size ≤ 8; rw [List.size_toArray]; exact hil
         have HSI : Hid (si.data.toList = Lib.itoa ((qi : Int) + 1)) := hide (by rw [← hsi])
         have HSE := hide hsi
         clear hsi hb hil
         by_cases h0 : m = 0
         ·have hm0 : ¬ (0 : Int) < (m : Int) := by omega
          have HM0 := hide h0
          clear h0
          go_wp2_with fail
          refine (rdigits_any _ _ (by omega) (by omega)).mono ?_
          rintro e w7 ⟨rfl, hb7⟩
          rw [uh HSE]
          have HB7 := hide (below_after B.out.2.2 hb7)
          clear hb7
          go_wp2_with fail
          go_roundg (qm.length - (m + 1))
          case measure => have := B.out.1; omega
          case rel =>
           refine ⟨m + 1, _, by omega, rfl, by go_num, rfl, ?_, uh HB7⟩
           rw [uh HTK, if_pos ((uh HTE).2 (uh HM0))]
           simp [B.out.2.1, uh HSI]
         ·have hm0 : (0 : Int) < (m : Int) := by omega
          have HM0 := hide h0
          clear h0
          go_wp2_with fail
          refine (rdigits_any _ _ (by omega) (by omega)).mono ?_
          rintro e w7 ⟨rfl, hb7⟩
          rw [uh HSE]
          have HB7 := hide (below_after B.out.2.2 hb7)
          clear hb7
          go_wp2_with fail
          go_roundg (qm.length - (m + 1))
          case measure => have := B.out.1; omega
          case rel =>
           refine ⟨m + 1, _, by omega, rfl, by go_num, rfl, ?_, uh HB7⟩
           rw [uh HTK, if_neg (fun h => uh HM0 ((uh HTE).1 h))]
           simp [B.out.2.1, uh HSI]
        ·have hme : m = qm.length := by omega
         have hmc : ¬ (m : Int) < qm.length := by omega
         have HME := hide hme
         clear hme hb
         go_wp2_with fail
         go_roundg (xs.length - (j + 1))
         case measure => have := A.out.1; omega
         case rel =>
          refine ⟨j + 1, _, by omega, rfl, by go_num, rfl, ?_, below_after A.out.2.2 (below_after (uh HR6) B.out.2.2)⟩
          have hb3 := B.out.2.1
          rw [uh HME, List.take_length] at hb3
          rw [uh HST]
          unfold lineOut
          rw [uh HS, if_pos rfl, uh HNM, uh HKN]
          simp [hb3, uh HD4, A.out.2.1]
      ·have hdbt : db = true := by rw [hdb]; simp [hdr]
       subst hdbt
       have HKN : Hid (knownOut x.it (⟨y0, y1⟩, qm) = shownOut ⟨y0, y1⟩) := hide (by unfold knownOut; rw [hT]; simp [hdr])
       clear hT hcan hpos hdb hdr
       go_wp2_with fail
       go_roundg (xs.length - (j + 1))
       case measure => have := A.out.1; omega
       case rel =>
        refine ⟨j + 1, _, by omega, rfl, by go_num, rfl, ?_, below_after A.out.2.2 (uh HR4)⟩
        rw [uh HST]
        unfold lineOut
        rw [uh HS, if_pos rfl, uh HNM, uh HKN]
        simp [uh HD1, A.out.2.1, uh HSH]
   ·have hje : j = its.length := by have := uh HXL; omega
    have hjc : ¬ (j : Int) < xs.length := by omega
    have HJ := hide hje
    clear hje hb hbw
    go_wp2_with fail
    go_ret2
    obtain ⟨_, a2, a3⟩ := A.out
    rw [uh HJ] at a2
    rw [uh HE]
    refine ⟨?_, below_after (uh HB1) a3⟩
    have hdd : d = ⟨(explainP its cl vals).toArray⟩ := by
     have : explainP its cl vals = d.data.toList := a2.symm
     rw [this]
    rw [hdd]
    rfl
end Go.Proofs.YthnggjaecngbiaaGreatDoor
namespace Go.Proofs.YthnggjaecngbiaaGreatDoor
open Go.RowKit
theorem u8_60 : u8 60 = 60 := rfl
theorem u8_62 : u8 62 = 62 := rfl
theorem rep_snoc (j : Nat) : Lib.repeatL [33] (j + 1) = Lib.repeatL [33] j ++ [33] := by
 rw [Lib.repeatL_add]; rfl
set_option maxRecDepth 100000 in
set_option maxHeartbeats 3200000 in
theorem rtestOut_any (t : PTest) (w : World) (hw : WfT t) :
  Calls Tryz.prog 113 #[rtv t] w fun e w' => e = .returned (.string ⟨(testOut t).toArray⟩) ∧ Below w.heap.size w w' := by
 have hlo := hw.low
 have hhi := hw.high
 have hk := hw.kind
 have hn := hw.nots
 have l1 := itoa_len hlo.1 hlo.2
 have l2 := itoa_len hhi.1 hhi.2
 obtain ⟨t0, t1, t2, t3⟩ := t
 simp only at hlo hhi hk hn l1 l2
 clear hw
 simp only [rtv]
 go_enter Tryz.func113, Tryz.ntmps113
 go_wp2_with fail
 go_loopg [3, 4] t0 (fun g sv i wr => ∃ (j : Nat) (d : ByteArray), j ≤ t0 ∧ g = t0 - j ∧ i = .int .i64 (j : Int) ∧ sv = .string d ∧ d.data.toList = Lib.repeatL [33] j ∧ d.size = j ∧ wr = (w.alloc (.cells #[.int .u8 (rkind t1), .int .i64 (t0 : Int), .int .i64 t2, .int .i64 t3] 181)))
 case atStart => exact ⟨0, ⟨#[]⟩, by omega, rfl, rfl, rfl, rfl, rfl, rfl⟩
 case round =>
  obtain ⟨j, d, hj, hg, rfl, rfl, hd, hds, rfl⟩ := hrel
  have HD0 := hide hd
  clear hd
  by_cases hlt : j < t0
  ·have hjc : (j : Int) < t0 := by omega
   go_wp2_with fail
   go_roundg (t0 - (j + 1))
   case measure => omega
   case rel =>
    refine ⟨j + 1, _, by omega, rfl, by go_num, rfl, ?_, ?_, rfl⟩
    ·rw [rep_snoc, ← uh HD0]; simp
    ·rw [ByteArray.size_append, hds]; rfl
  ·have hje : j = t0 := by omega
   subst hje
   have HD := HD0
   have hjc : ¬ (j : Int) < j := by omega
   have HB0 := hide ((Below.refl _ w).alloc (Nat.le_refl _) (.cells #[.int .u8 (rkind t1), .int .i64 (j : Int), .int .i64 t2, .int .i64 t3] 181))
   clear hlt hg hj HD0
   rcases (by omega : t1 = 0 ∨ t1 = 1 ∨ t1 = 2 ∨ t1 = 3 ∨ t1 = 4 ∨ t1 = 5 ∨ t1 = 6) with e | e | e | e | e | e | e
   all_goals subst e
   all_goals clear hk
   ·rw [show rkind 0 = 95 from rfl] at *
    go_wp2_with fail
    go_ret
    refine ⟨ret_str ?_, uh HB0⟩
    simp only [testOut, bareOut]
    simp [uh HD]
   ·rw [show rkind 1 = 110 from rfl] at *
    go_wp2_with fail
    go_ret
    refine ⟨ret_str ?_, uh HB0⟩
    simp only [testOut, bareOut]
    simp [uh HD]
   ·rw [show rkind 2 = 99 from rfl] at *
    go_wp2_with fail
    go_ret
    refine ⟨ret_str ?_, uh HB0⟩
    simp only [testOut, bareOut]
    simp [uh HD]
   ·rw [show rkind 3 = 61 from rfl] at *
    go_wp2_with fail
    refine (rdigits_any _ _ hlo.1 hlo.2).mono ?_
    rintro e w1 ⟨rfl, hb1⟩
    obtain ⟨d1, hd1⟩ : ∃ d : ByteArray, (⟨(Lib.itoa t2).toArray⟩ : ByteArray) = d := ⟨_, rfl⟩
    have hs1 : d1.size ≤ 8 := by rw [← hd1]; show (Lib.itoa t2).toArray.size ≤ 8; rw [List.size_toArray]; exact l1
    rw [hd1]
    have HD1 : Hid (d1.data.toList = Lib.itoa t2) := hide (by rw [← hd1])
    have HB1 := hide (below_after (uh HB0) hb1)
    clear hb1 hd1
    go_wp2_with fail
    go_ret
    refine ⟨ret_str ?_, uh HB1⟩
    simp only [testOut, bareOut]
    simp [uh HD, uh HD1]
   ·rw [show rkind 4 = 46 from rfl] at *
    obtain ⟨d1, hd1⟩ : ∃ d : ByteArray, (⟨(Lib.itoa t2).toArray⟩ : ByteArray) = d := ⟨_, rfl⟩
    have hs1 : d1.size ≤ 8 := by rw [← hd1]; show (Lib.itoa t2).toArray.size ≤ 8; rw [List.size_toArray]; exact l1
    have HD1 : Hid (d1.data.toList = Lib.itoa t2) := hide (by rw [← hd1])
    have E1 := hide hd1
    clear hd1
    obtain ⟨d2, hd2⟩ : ∃ d : ByteArray, (⟨(Lib.itoa t3).toArray⟩ : ByteArray) = d := ⟨_, rfl⟩
    have hs2 : d2.size ≤ 8 := by rw [← hd2]; show (Lib.itoa t3).toArray.size ≤ 8; rw [List.size_toArray]; exact l2
    have HD2 : Hid (d2.data.toList = Lib.itoa t3) := hide (by rw [← hd2])
    have E2 := hide hd2
    clear hd2
    go_wp2_with fail
    go_region_with (first | (go_at_call_of 114 t2; refine (rdigits_any _ _ hlo.1 hlo.2).mono ?_; rintro e w1 ⟨rfl, hb1⟩; rw [uh E1]; have hb1 := below_of_drew hb1; have HB1 := hide (below_after (uh HB0) hb1); obtain ⟨c0, c1, c2, c3, f0, f1, f2, f3⟩ := cells4 ((hb1.block w.heap.size (by simp)).trans (alloc_last w _)); clear hb1) | (go_at_call_of 114 t3; refine (rdigits_any _ _ hhi.1 hhi.2).mono ?_; rintro e w2 ⟨rfl, hb2⟩; rw [uh E2]; have HB2 := hide (below_after (uh HB1) hb2); clear hb2))
    all_goals
     go_wp2_with fail
     go_ret
     refine ⟨ret_str ?_, uh HB2⟩
     simp only [testOut, bareOut]
     simp [uh HD, uh HD1, uh HD2]
   ·rw [show rkind 5 = 60 from rfl] at *
    have hq : ((w.alloc (.cells #[.int .u8 60, .int .i64 (j : Int), .int .i64 t2, .int .i64 t3] 181)).alloc (.cells #[.int .u8 60] 5)).heap[w.heap.size + 1]? = some (.cells #[.int .u8 60] 5) := by have := alloc_last (w.alloc (.cells #[.int .u8 60, .int .i64 (j : Int), .int .i64 t2, .int .i64 t3] 181)) (.cells #[.int .u8 60] 5); simpa using this
    have HQ := hide hq
    have hcv := conv_at 60 ((w.alloc (.cells #[.int .u8 60, .int .i64 (j : Int), .int .i64 t2, .int .i64 t3] 181)).alloc (.cells #[.int .u8 60] 5)).drew (w.heap.size + 1) hq
    clear hq
    obtain ⟨d1, hd1⟩ : ∃ d : ByteArray, (⟨(Lib.itoa t2).toArray⟩ : ByteArray) = d := ⟨_, rfl⟩
    have hs1 : d1.size ≤ 8 := by rw [← hd1]; show (Lib.itoa t2).toArray.size ≤ 8; rw [List.size_toArray]; exact l1
    have HD1 : Hid (d1.data.toList = Lib.itoa t2) := hide (by rw [← hd1])
    have E1 := hide hd1
    clear hd1
    go_wp2_with fail
    go_region_with (first | (go_at_call 114; refine (rdigits_any _ ((w.alloc (.cells #[.int .u8 60, .int .i64 (j : Int), .int .i64 t2, .int .i64 t3] 181)).alloc (.cells #[.int .u8 60] 5)).drew hlo.1 hlo.2).mono ?_; rintro e w1 ⟨rfl, hb1⟩; rw [uh E1]; have hb1 := below_of_drew hb1; have hcv1 := conv_at 60 w1 (w.heap.size + 1) ((hb1.block (w.heap.size + 1) (by simp)).trans (uh HQ)); have HB1 := hide (below_after ((uh HB0).alloc (by simp) (.cells #[.int .u8 60] 5)) hb1); clear hb1) | (go_at_call 114; refine (rdigits_any _ (w.alloc (.cells #[.int .u8 60, .int .i64 (j : Int), .int .i64 t2, .int .i64 t3] 181)).drew hlo.1 hlo.2).mono ?_; rintro e w1 ⟨rfl, hb1⟩; rw [uh E1]; have hb1 := below_of_drew hb1; have hcv1 := conv_one 60 w1 _ rfl; obtain ⟨c0, c1, c2, c3, f0, f1, f2, f3⟩ := cells4 ((hb1.block w.heap.size (by simp)).trans (alloc_last w _)); have HB1 := hide (below_after (uh HB0) hb1); clear hb1))
    all_goals
     go_wp2_with fail
     go_ret
     refine ⟨ret_str ?_, ?_⟩
     ·simp only [testOut, bareOut]
      simp [uh HD, uh HD1, u8_60]
     ·first | exact uh HB1 | exact (uh HB1).alloc (uh HB1).size _
   ·rw [show rkind 6 = 62 from rfl] at *
    have hq : ((w.alloc (.cells #[.int .u8 62, .int .i64 (j : Int), .int .i64 t2, .int .i64 t3] 181)).alloc (.cells #[.int .u8 62] 5)).heap[w.heap.size + 1]? = some (.cells #[.int .u8 62] 5) := by have := alloc_last (w.alloc (.cells #[.int .u8 62, .int .i64 (j : Int), .int .i64 t2, .int .i64 t3] 181)) (.cells #[.int .u8 62] 5); simpa using this
    have HQ := hide hq
    have hcv := conv_at 62 ((w.alloc (.cells #[.int .u8 62, .int .i64 (j : Int), .int .i64 t2, .int .i64 t3] 181)).alloc (.cells #[.int .u8 62] 5)).drew (w.heap.size + 1) hq
    clear hq
    obtain ⟨d1, hd1⟩ : ∃ d : ByteArray, (⟨(Lib.itoa t2).toArray⟩ : ByteArray) = d := ⟨_, rfl⟩
    have hs1 : d1.size ≤ 8 := by rw [← hd1]; show (Lib.itoa t2).toArray.size ≤ 8; rw [List.size_toArray]; exact l1
    have HD1 : Hid (d1.data.toList = Lib.itoa t2) := hide (by rw [← hd1])
    have E1 := hide hd1
    clear hd1
    go_wp2_with fail
    go_region_with (first | (go_at_call 114; refine (rdigits_any _ ((w.alloc (.cells #[.int .u8 62, .int .i64 (j : Int), .int .i64 t2, .int .i64 t3] 181)).alloc (.cells #[.int .u8 62] 5)).drew hlo.1 hlo.2).mono ?_; rintro e w1 ⟨rfl, hb1⟩; rw [uh E1]; have hb1 := below_of_drew hb1; have hcv1 := conv_at 62 w1 (w.heap.size + 1) ((hb1.block (w.heap.size + 1) (by simp)).trans (uh HQ)); have HB1 := hide (below_after ((uh HB0).alloc (by simp) (.cells #[.int .u8 62] 5)) hb1); clear hb1) | (go_at_call 114; refine (rdigits_any _ (w.alloc (.cells #[.int .u8 62, .int .i64 (j : Int), .int .i64 t2, .int .i64 t3] 181)).drew hlo.1 hlo.2).mono ?_; rintro e w1 ⟨rfl, hb1⟩; rw [uh E1]; have hb1 := below_of_drew hb1; have hcv1 := conv_one 62 w1 _ rfl; obtain ⟨c0, c1, c2, c3, f0, f1, f2, f3⟩ := cells4 ((hb1.block w.heap.size (by simp)).trans (alloc_last w _)); have HB1 := hide (below_after (uh HB0) hb1); clear hb1))
    all_goals
     go_wp2_with fail
     go_ret
     refine ⟨ret_str ?_, ?_⟩
     ·simp only [testOut, bareOut]
      simp [uh HD, uh HD1, u8_62]
     ·first | exact uh HB1 | exact (uh HB1).alloc (uh HB1).size _
end Go.Proofs.YthnggjaecngbiaaGreatDoor
