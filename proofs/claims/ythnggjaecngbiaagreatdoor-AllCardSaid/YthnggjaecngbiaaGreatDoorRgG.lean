import Derived.Test.YthnggjaecngbiaaGreatDoorRgC
import Derived.Test.YthnggjaecngbiaaGreatDoorRfM
import Derived.Laws.BytesArg
import Derived.Test.YthnggjaecngbiaaGreatDoorExC
namespace Go.Proofs.YthnggjaecngbiaaGreatDoor
open Go.RowKit
theorem resF_succ {its : List PItem} (vals : List Int) {j : Nat} (h : j < its.length) : (resTo its vals (j + 1)).map Prod.fst = (resTo its vals j).map Prod.fst ++ [if its[j].isT then decideP its[j].policy (numsOf its[j].rules (metP its[j].rules (colVals its ((resTo its vals j).map Prod.fst) its[j]))) else ⟨0, vals.getD (inputsTo its j) 0⟩] := by
 rw [resTo_succ vals h, List.map_append]
 congr 1
 cases its[j].isT <;> simp [tableP]
theorem owns_len {w : World} {base : Nat} {e : TypeId} {size : Nat} {ao : Option Addr} {k cap n : Nat} {xs : List Value} (h : w.ownsRow base e size (.slice ao k cap) n xs) : k = n := by
 rcases h.2 with ⟨h1, h2⟩ | ⟨g, c, cur, h1, _⟩
 ·simp only [Value.slice.injEq] at h1
  omega
 ·simp only [Value.slice.injEq] at h1
  exact h1.2.1
def AllOf (its : List PItem) (vals : List Int) (w : World) (e : Ending) (w' : World) : Prop :=
 (fitsP its vals = false ∧ e = .returned (.tuple #[.slice none 0 0, .bool false]) ∧ Below w.heap.size w w') ∨
 (fitsP its vals = true ∧ ∃ ao cap, e = .returned (.tuple #[.slice ao its.length cap, .bool true]) ∧ Below w.heap.size w w' ∧ w'.ownsRow w.heap.size 51 2 (.slice ao its.length cap) its.length (((resP its vals).map Prod.fst).flatMap vcells))
set_option maxRecDepth 100000 in
set_option maxHeartbeats 3200000 in
theorem rall_any (g : Nat) (its : List PItem) (vl : Value) (vals : List Int) (w : World) (h : RPlanAt w g its) (hv : InSl w vl vals) : Calls Tryz.prog 115 #[.pointer (some ⟨g, 0, none⟩), vl] w (AllOf its vals w) := by
 have HP := hide h
 obtain ⟨pv, xs, hN, hit, hxs, hwf, hok⟩ := h
 obtain ⟨vo, vc, rfl⟩ := hv.form
 obtain ⟨po, pcap, rfl⟩ := hit.1.form
 have hlen : xs.length ≤ 12 := by have := hok.len; rw [← hxs] at this; simpa using this
 have hxl : xs.length = its.length := by rw [← hxs]; simp
 have HV := hide hv
 have HN := hide hN
 have HI := hide hit
 have HX := hide hxs
 have HOK := hide hok
 have HWF := hide hwf
 have HXL := hide hxl
 have hcell : ∀ (w' : World) (j : Nat) (hj : j < xs.length), Below w.heap.size w w' → ∃ gi, po = some ⟨gi, 0, none⟩ ∧ gi < w.heap.size ∧ (w'.cell? ⟨gi, j * 6, none⟩ = some (.string xs[j].it.name) ∧ w'.cell? ⟨gi, j * 6 + 1, none⟩ = some (.int .i64 (rmarks xs[j].it)) ∧ w'.cell? ⟨gi, j * 6 + 2, none⟩ = some (.int .u8 xs[j].it.policy) ∧ w'.cell? ⟨gi, j * 6 + 3, none⟩ = some (.bool (rdrops xs[j].it)) ∧ w'.cell? ⟨gi, j * 6 + 4, none⟩ = some xs[j].cv ∧ w'.cell? ⟨gi, j * 6 + 5, none⟩ = some xs[j].rv) := fun w' j hj hb => by
  rcases hit.1 with ⟨h0, _⟩ | ⟨gi, cap, hv, hc, hm, hgl, hx⟩
  ·omega
  simp only [Value.slice.injEq] at hv
  obtain ⟨rfl, _, rfl⟩ := hv
  exact ⟨gi, rfl, hgl, ritem_cells hit.1 hb hj⟩
 have HCELL := hide hcell
 have hgs := lt_of_block hN
 have c0 : w.cell? ⟨g, 0, none⟩ = some (.slice po xs.length pcap) := by simp [World.cell?, hN]
 have HC0 : Hid (∀ w', Below w.heap.size w w' → w'.cell? ⟨g, 0, none⟩ = some (.slice po xs.length pcap)) := hide (fun w' hb => (hb.cell (p := ⟨g, 0, none⟩) hgs).trans c0)
 clear hv hN hit hxs hok hwf hcell hxl
 obtain ⟨i0, hi, hz0, hz1, hz2⟩ := info_parts Tryz.info_value
 go_enter Tryz.func115, Tryz.ntmps115
 go_wp2_with fail
 go_loopg [6, 7] xs.length (fun gk nv iv wr => ∃ j : Nat, j ≤ xs.length ∧ gk = xs.length - j ∧ iv = .int .i64 (j : Int) ∧ nv = .int .i64 ((inputsTo its j : Nat) : Int) ∧ Below w.heap.size w wr)
 case atStart => exact ⟨0, by omega, rfl, rfl, rfl, Below.refl _ _⟩
 case round =>
  obtain ⟨j, hj, hg, rfl, rfl, hb⟩ := hrel
  have A : Aside (gk = xs.length - j ∧ Below w.heap.size w wr) := ⟨hg, hb⟩
  have hin := inputsTo_le its j
  have c0' := uh HC0 wr hb
  have hgs' : g < wr.heap.size := Nat.lt_of_lt_of_le hgs hb.size
  clear hg
  by_cases hlt : j < xs.length
  ·obtain ⟨gi, rfl, hgi, k0, k1, k2, k3, k4, k5⟩ := uh HCELL wr j hlt hb
   have hgi' : gi < wr.heap.size := Nat.lt_of_lt_of_le hgi hb.size
   have hji : j < its.length := by have := uh HXL; omega
   have hxe : its[j] = xs[j].it := by simp [← uh HX]
   have hstep := inputsTo_succ hji
   have hcan := can_pol ((uh HOK).can its[j] (List.getElem_mem hji))
   rw [hxe] at hstep hcan
   have HS := hide hstep
   have hjc : (j : Int) < xs.length := by omega
   clear hstep hxe k0 k1 k3 k4 k5 hb
   generalize xs[j].it = it at *
   generalize inputsTo its j = nj at *
   rcases hcan with ⟨hT, hp⟩ | ⟨hT, hp⟩
   ·rw [hT, if_pos rfl] at HS
    have hpb : (it.policy == 0) = false := by simpa using hp
    go_wp2_with fail
    go_roundg (xs.length - (j + 1))
    case measure => have := A.out.1; omega
    case rel => exact ⟨j + 1, by omega, rfl, by go_num, by rw [uh HS]; rfl, A.out.2⟩
   ·rw [hT, if_neg (by simp)] at HS
    have hpb : (it.policy == 0) = true := by simpa using hp
    go_wp2_with fail
    go_roundg (xs.length - (j + 1))
    case measure => have := A.out.1; omega
    case rel => exact ⟨j + 1, by omega, rfl, by go_num, by rw [uh HS]; go_num, A.out.2⟩
  ·have hjc : ¬ (j : Int) < xs.length := by omega
   have hje : j = its.length := by have := uh HXL; omega
   have hne : inputsTo its j = inputsP its := by rw [hje]; rfl
   rw [hne] at hin ⊢
   have HB1 := hide hb
   have hip : inputsP its ≤ 12 := by have := inputsTo_le its its.length; have := uh HXL; unfold inputsP; omega
   clear hje hne hb
   by_cases hfl : vals.length = inputsP its
   ·have hbn : ((vals.length : Int) != ((inputsP its : Nat) : Int)) = false := by rw [hfl]; simp
    have HFL := hide hfl
    have hvl : vals.length ≤ 12 := by omega
    clear hfl
    go_wp2_with fail
    go_loopg [8, 9, 10] xs.length (fun gk ov av iv wx => ∃ j : Nat, j ≤ xs.length ∧ gk = xs.length - j ∧ iv = .int .i64 (j : Int) ∧ av = .int .i64 ((inputsTo its j : Nat) : Int) ∧ (vals.take (inputsTo its j)).any numBeyond = false ∧ Below w.heap.size w wx ∧ wx.ownsRow w.heap.size 51 2 ov j (((resTo its vals j).map Prod.fst).flatMap vcells))
    case atStart => exact ⟨0, by omega, rfl, rfl, rfl, by simp [inputsTo], uh HB1, World.ownsRow_nil _ _ _ _⟩
    case round =>
     clear A hjc hlt c0' hgs' hin
     obtain ⟨j, hj, hg, rfl, rfl, hno, hb, hown⟩ := hrel
     have A : Aside (gk = xs.length - j ∧ (vals.take (inputsTo its j)).any numBeyond = false ∧ Below w.heap.size w wr ∧ wr.ownsRow w.heap.size 51 2 u8 j (((resTo its vals j).map Prod.fst).flatMap vcells)) := ⟨hg, hno, hb, hown⟩
     have hin2 := inputsTo_le its j
     have c0' := uh HC0 wr hb
     have hgs' : g < wr.heap.size := Nat.lt_of_lt_of_le hgs hb.size
     clear hg hno
     by_cases hlt : j < xs.length
     ·obtain ⟨gi, rfl, hgi, k0, k1, k2, k3, k4, k5⟩ := uh HCELL wr j hlt hb
      have hgi' : gi < wr.heap.size := Nat.lt_of_lt_of_le hgi hb.size
      have hji : j < its.length := by have := uh HXL; omega
      have hxe : its[j] = xs[j].it := by simp [← uh HX]
      have hstep := inputsTo_succ hji
      have hres := resF_succ vals hji
      have hcan := can_pol ((uh HOK).can its[j] (List.getElem_mem hji))
      have hpos : its[j].isT = true → 0 < its[j].policy := fun hT => by
       rcases (uh HOK).can its[j] (List.getElem_mem hji) with hc | hc
       ·have := hc.isT
        rw [hT] at this
        cases this
       ·have := hc.pol
        unfold isPol at this
        simp only [decide_eq_true_eq] at this
        omega
      have hclen := (uh HOK).clen its[j] (List.getElem_mem hji)
      have hrlen := (uh HOK).rlen its[j] (List.getElem_mem hji)
      have hnum := (uh HOK).num its[j] (List.getElem_mem hji)
      have hwid := (uh HOK).width its[j] (List.getElem_mem hji)
      have hahd := (uh HOK).ahead j hji
      rw [hxe] at hstep hcan hres hpos hclen hrlen hnum hwid hahd
      have hwi := uh HWF xs[j] (List.getElem_mem hlt)
      have hxv := (uh HI).2 xs[j] (List.getElem_mem hlt)
      have hmono := inputsTo_mono its (show j + 1 ≤ its.length by omega)
      have hjc : (j : Int) < xs.length := by omega
      generalize xs[j] = x at *
      obtain ⟨co, cc, hcv⟩ := hxv.2.1.form
      obtain ⟨ro, rc, hrv⟩ := hxv.2.2.1.form
      rw [hcv] at k4
      rw [hrv] at k5
      have hriv : riv x = .agg #[.string x.it.name, .int .i64 (rmarks x.it), .int .u8 x.it.policy, .bool (rdrops x.it), .slice co x.it.cols.length cc, .slice ro x.it.rules.length rc] := by
       unfold riv ricells
       rw [hcv, hrv]
      have hvlen : ((resTo its vals j).map Prod.fst).length = j := by rw [List.length_map, resTo_len]
      obtain ⟨vs, hvs⟩ : ∃ vs, (resTo its vals j).map Prod.fst = vs := ⟨_, rfl⟩
      rw [hvs] at hvlen hres hown
      have HCOLS : Hid (∀ (w' : World) (bv : Value), RPlanAt w' g its → RItemV w' x → SlAt w' 2 bv vs.length (vs.flatMap vcells) → Calls Tryz.prog 118 #[.pointer (some ⟨g, 0, none⟩), .agg #[.string x.it.name, .int .i64 (rmarks x.it), .int .u8 x.it.policy, .bool (rdrops x.it), .slice co x.it.cols.length cc, .slice ro x.it.rules.length rc], bv] w' fun e w'' => ∃ v, e = .returned v ∧ Below w'.heap.size w' w'' ∧ w''.ownsRow w'.heap.size 51 2 v (colVals its vs x.it).length ((colVals its vs x.it).flatMap vcells)) := hide (fun w' bv h1 h2 h3 => by
       rw [← hriv]
       exact rcolumns_any g its x bv vs w' h1 h2 hclen h3 (by omega) (by rw [hvlen]; exact hahd))
      have HMET : Hid (∀ (w' : World) (bv : Value), RItemV w' x → SlAt w' 2 bv (colVals its vs x.it).length ((colVals its vs x.it).flatMap vcells) → Calls Tryz.prog 117 #[.agg #[.string x.it.name, .int .i64 (rmarks x.it), .int .u8 x.it.policy, .bool (rdrops x.it), .slice co x.it.cols.length cc, .slice ro x.it.rules.length rc], bv] w' fun e w'' => ∃ v, e = .returned v ∧ Below w'.heap.size w' w'' ∧ w''.ownsRow w'.heap.size 3 1 v (metP x.it.rules (colVals its vs x.it)).length (nats (metP x.it.rules (colVals its vs x.it)))) := hide (fun w' bv h1 h2 => by
       rw [← hriv]
       exact rmet_any x bv _ w' h1 (by omega) (fun r hr => ⟨by rw [colVals_len]; exact hwid r hr, (hwi.rules r hr).tests⟩) h2 (by rw [colVals_len]; omega))
      have HVAL : Hid (∀ (w' : World) (lv : Value) (l : List Nat), RItemV w' x → (∀ i ∈ l, i < x.it.rules.length) → l.length ≤ 1000 → SlAt w' 1 lv l.length (nats l) → Calls Tryz.prog 143 #[.agg #[.string x.it.name, .int .i64 (rmarks x.it), .int .u8 x.it.policy, .bool (rdrops x.it), .slice co x.it.cols.length cc, .slice ro x.it.rules.length rc], lv] w' fun e w'' => e = .returned (vv (decideP x.it.policy (numsOf x.it.rules l))) ∧ Below w'.heap.size w' w'') := hide (fun w' lv l h1 h2 h3 h4 => by
       rw [← hriv]
       exact rvalue_any x lv l w' h1 (by omega) h2 h3 hnum h4)
      have HXV := hide hxv
      have HRES := hide hres
      have HSTEP := hide hstep
      have hmet := metTo_len x.it.rules (colVals its vs x.it) x.it.rules.length
      have hmlt : ∀ i ∈ metP x.it.rules (colVals its vs x.it), i < x.it.rules.length := metTo_lt (Nat.le_refl _)
      have HMLT := hide hmlt
      have HMLEN : Hid ((metP x.it.rules (colVals its vs x.it)).length ≤ 1000) := hide (by unfold metP; omega)
      clear hriv hcv hrv hxv hres hstep hahd hwid hnum hwi hmlt hmet hxe hclen hrlen
      generalize x.it.name = nm at *
      generalize rmarks x.it = mi at *
      generalize rdrops x.it = db at *
      generalize x.it.cols.length = cn at *
      generalize x.it.rules.length = rn at *
      have HBW := hide hb
      have HOW := hide hown
      have HVL := hide hvlen
      obtain ⟨w2, hw2⟩ : ∃ w2, w2 = wr.alloc (.cells #[.string nm, .int .i64 mi, .int .u8 x.it.policy, .bool db, .slice co cn cc, .slice ro rn rc] 141) := ⟨_, rfl⟩
      have HB2 : Hid (Below wr.heap.size wr w2) := hide (by rw [hw2]; exact (Below.refl _ wr).alloc (Nat.le_refl _) _)
      have HN2 : Hid (w2.heap[wr.heap.size]? = some (.cells #[.string nm, .int .i64 mi, .int .u8 x.it.policy, .bool db, .slice co cn cc, .slice ro rn rc] 141)) := hide (by rw [hw2]; exact alloc_last wr _)
      clear hb hown hvlen
      rcases hcan with ⟨hT, hp⟩ | ⟨hT, hp⟩
      ·have hpp := hpos hT
       rw [hT, if_pos rfl] at HRES
       rw [hT, if_pos rfl] at HSTEP
       generalize x.it.policy = pol at *
       clear hpos hp
       have HB02 := hide (below_after (uh HBW) (uh HB2))
       have HSO : Hid (SlAt w2 2 u8 vs.length (vs.flatMap vcells)) := hide (by rw [uh HVL]; exact SlAt.of_owns (owns_below (uh HOW) (uh HB2)))
       have HCE : Hid (∀ w', Below w2.heap.size w2 w' → w'.cell? ⟨wr.heap.size, 0, none⟩ = some (.string nm) ∧ w'.cell? ⟨wr.heap.size, 1, none⟩ = some (.int .i64 mi) ∧ w'.cell? ⟨wr.heap.size, 2, none⟩ = some (.int .u8 pol) ∧ w'.cell? ⟨wr.heap.size, 3, none⟩ = some (.bool db) ∧ w'.cell? ⟨wr.heap.size, 4, none⟩ = some (.slice co cn cc) ∧ w'.cell? ⟨wr.heap.size, 5, none⟩ = some (.slice ro rn rc)) := hide (fun w' hb' => cells6b ((hb'.block _ (lt_of_block (uh HN2))).trans (uh HN2)))
       obtain ⟨s0, s1, s2, s3, s4, s5⟩ := uh HCE w2 (Below.refl _ _)
       have hs2 := lt_of_block (uh HN2)
       go_wp2_with fail
       rw [← hw2]
       clear hw2 k0 k1 k2 k3 k4 k5
       go_region_held3 (fun w' => w'.cell? ⟨wr.heap.size, 0, none⟩ = some (.string nm) ∧ w'.cell? ⟨wr.heap.size, 1, none⟩ = some (.int .i64 mi) ∧ w'.cell? ⟨wr.heap.size, 2, none⟩ = some (.int .u8 pol) ∧ w'.cell? ⟨wr.heap.size, 3, none⟩ = some (.bool db) ∧ w'.cell? ⟨wr.heap.size, 4, none⟩ = some (.slice co cn cc) ∧ w'.cell? ⟨wr.heap.size, 5, none⟩ = some (.slice ro rn rc)) (go_keep) (first | (go_at_call 118; refine (uh HCOLS _ _ ((uh HP).below (uh HB02).drew) ((uh HXV).below (uh HB02).drew) ((uh HSO).below (Below.refl _ _).drew)).mono ?_; rintro e w5 ⟨cv5, rfl, hb5, ho5⟩; have HB5 := hide (below_of_drew hb5); have HO5 := hide ho5; obtain ⟨z0, z1, z2, z3, z4, z5⟩ := uh HCE _ (uh HB5); clear hb5 ho5) | (go_at_call 117; refine (uh HMET _ _ ((uh HXV).below (below_after (uh HB02) (uh HB5))) (SlAt.of_owns (uh HO5))).mono ?_; rintro e w6 ⟨lv6, rfl, hb6, ho6⟩; have HB6 := hide (below_after (uh HB5) hb6); have HO6 := hide ho6; obtain ⟨y0, y1, y2, y3, y4, y5⟩ := uh HCE _ (uh HB6); clear hb6 ho6))
       clear z0 z1 z2 z3 z4 z5 s0 s1 s2 s3 s4 s5
       go_wp2_with fail
       refine (uh HVAL _ _ _ ((uh HXV).below (below_after (uh HB02) (uh HB6))) (uh HMLT) (uh HMLEN) (SlAt.of_owns (uh HO6))).mono ?_
       rintro e w7 ⟨rfl, hb7⟩
       generalize decideP pol (numsOf x.it.rules (metP x.it.rules (colVals its vs x.it))) = dv at *
       obtain ⟨d0, d1⟩ := dv
       simp only [vv]
       have HB7 := hide (below_after (uh HB6) hb7)
       have hs7 := (below_after (uh HB02) (uh HB7)).size
       have HO7 := hide (owns_below (uh HOW) (below_after (uh HB2) (uh HB7)))
       have HB07 := hide (below_after (uh HB02) (uh HB7))
       clear hb7 y0 y1 y2 y3 y4 y5
       go_wp2_with (at_builtin; refine wpList_append_lies _ (by rfl) _ _ _ (by rfl) w.heap.size 51 i0 _ 2 16 Tryz.underlying47 hi hz0 hz1 hz2 rfl (by decide) u8 j (vs.flatMap vcells) (by rfl) (((uh HO7).alloc _).alloc _) ⟨w7.heap.size + 1, 0, none⟩ 1 1 [.int .i64 d0, .int .i64 d1] (by rfl) (by rfl) (World.news_of_block (cs := #[.int .i64 d0, .int .i64 d1]) (t := 51) (fr := (0, 0)) (by have := heap_alloc_new (w7.alloc (.cells #[.int .i64 d0, .int .i64 d1] 51)) (.cells #[.int .i64 d0, .int .i64 d1] 51); simpa using this)) (by simp [Value.oneCell']) (by decide) (by unfold maxLen; omega) (by omega) (by simp; omega) (w7.heap.size + 2) (by simp) ?_; intro gg cap w8 hown8 hgrow8 hat8 hlt8; have AB := hide (And.intro (below_grown (((uh HB07).alloc hs7 _).alloc (by simp; omega) _) hgrow8 (fun q hq => ((uh HO7).lt q hq).1)) hown8); clear hown8 hgrow8 hat8 hlt8)
       go_roundg (xs.length - (j + 1))
       case measure => have := A.out.1; omega
       case rel => exact ⟨j + 1, by omega, rfl, by go_num, by rw [uh HSTEP]; rfl, by rw [uh HSTEP]; exact A.out.2.1, (uh AB).1, by rw [uh HRES, List.flatMap_append]; exact (uh AB).2⟩
      ·rw [hT, if_neg (by simp)] at HRES
       rw [hT, if_neg (by simp)] at HSTEP
       have hat : inputsTo its j < vals.length := by
        have h1 := uh HSTEP
        have h2 := uh HFL
        unfold inputsP at h2
        omega
       have HB02 := hide (below_after (uh HBW) (uh HB2))
       obtain ⟨gv, off, rfl, q0, hgv⟩ := ((uh HV).below (uh HBW)).at hat
       have q1 := ((uh HB2).cell (p := ⟨gv, off + inputsTo its j, none⟩) hgv).trans q0
       rw [getD_at _ _ hat] at HRES
       have HNX : Hid ((vals.take (inputsTo its j + 1)).any numBeyond = numBeyond vals[inputsTo its j]) := hide (by
        rw [List.take_succ_eq_append_getElem hat, List.any_append, A.out.2.1]
        simp)
       have hatc : ((inputsTo its j : Nat) : Int) < vals.length := by omega
       have HANY : Hid (numBeyond vals[inputsTo its j] = true → fitsP its vals = false) := hide (fun hh => by
        unfold fitsP
        rw [show vals.any numBeyond = true from List.any_eq_true.2 ⟨_, List.getElem_mem hat, hh⟩]
        simp)
       generalize vals[inputsTo its j] = y at *
       generalize inputsTo its j = ij at *
       generalize x.it.policy = pol at *
       subst hp
       have hs2 := lt_of_block (uh HN2)
       obtain ⟨s0, s1, s2, s3, s4, s5⟩ := cells6b (uh HN2)
       have hsz2 := (uh HB02).size
       have HO2 := hide (owns_below (uh HOW) (uh HB2))
       subst hw2
       by_cases hy1 : y < -1000000
       ·have HNF := hide (uh HANY (by simp [numBeyond]; omega))
        go_wp2_with fail
        go_ret2
        exact Or.inl ⟨uh HNF, rfl, uh HB02⟩
       ·by_cases hy2 : 1000000 < y
        ·have HNF := hide (uh HANY (by simp [numBeyond]; omega))
         go_wp2_with fail
         go_ret2
         exact Or.inl ⟨uh HNF, rfl, uh HB02⟩
        ·have HNB : Hid (numBeyond y = false) := hide (by simp [numBeyond]; omega)
         go_wp2_with (at_builtin; refine wpList_append_lies _ (by rfl) _ _ _ (by rfl) w.heap.size 51 i0 _ 2 16 Tryz.underlying47 hi hz0 hz1 hz2 rfl (by decide) u8 j (vs.flatMap vcells) (by rfl) ((uh HO2).alloc _) ⟨wr.heap.size + 1, 0, none⟩ 1 1 [.int .i64 0, .int .i64 y] (by rfl) (by rfl) (World.news_of_block (cs := #[.int .i64 0, .int .i64 y]) (t := 51) (fr := (0, 0)) (by have := heap_alloc_new (wr.alloc (.cells #[.string nm, .int .i64 mi, .int .u8 0, .bool db, .slice co cn cc, .slice ro rn rc] 141)) (.cells #[.int .i64 0, .int .i64 y] 51); simpa using this)) (by simp [Value.oneCell']) (by decide) (by unfold maxLen; omega) (by omega) (by simp; simp at hsz2; omega) (wr.heap.size + 2) (by simp) ?_; intro gg cap w8 hown8 hgrow8 hat8 hlt8; have AB := hide (And.intro (below_grown ((uh HB02).alloc hsz2 _) hgrow8 (fun q hq => ((uh HO2).lt q hq).1)) hown8); clear hown8 hgrow8 hat8 hlt8)
         go_roundg (xs.length - (j + 1))
         case measure => have := A.out.1; omega
         case rel => exact ⟨j + 1, by omega, rfl, by go_num, by rw [uh HSTEP]; go_num, by rw [uh HSTEP, uh HNX, uh HNB], (uh AB).1, by rw [uh HRES, List.flatMap_append]; exact (uh AB).2⟩
     ·have hje : j = its.length := by have := uh HXL; omega
      have hjc : ¬ (j : Int) < xs.length := by omega
      have HJ := hide hje
      obtain ⟨ao, k, cap, hu8⟩ := owns_form hown
      have hk : k = j := owns_len (hu8 ▸ hown)
      subst hu8 hk
      have HFT : Hid (fitsP its vals = true) := hide (by
       unfold fitsP
       have h1 := A.out.2.1
       rw [hje, show inputsTo its its.length = inputsP its from rfl, ← uh HFL, List.take_length] at h1
       rw [h1, uh HFL]
       simp)
      clear hje hb hown
      go_wp2_with fail
      go_ret2
      obtain ⟨_, _, a3, a4⟩ := A.out
      rw [uh HJ] at a4 ⊢
      exact Or.inr ⟨uh HFT, ao, cap, rfl, a3, a4⟩
   ·have hbn : ((vals.length : Int) != ((inputsP its : Nat) : Int)) = true := by rw [bne_iff_ne]; omega
    have HNF : Hid (fitsP its vals = false) := hide (by unfold fitsP; simp [hfl])
    go_wp2_with fail
    go_ret2
    exact Or.inl ⟨uh HNF, rfl, uh HB1⟩
end Go.Proofs.YthnggjaecngbiaaGreatDoor
namespace Go.Proofs.YthnggjaecngbiaaGreatDoor
open Go.RowKit
theorem conv_one (c : Int) (w : World) (n : Nat) (hn : n = w.heap.size) : (convert 59 9 (.slice (some ⟨n, 0, none⟩) 1 1)).run Tryz.prog (w.alloc (.cells #[.int .u8 c] 5)) = .ok (.string ⟨#[u8 c]⟩) (w.alloc (.cells #[.int .u8 c] 5)) := by
 subst hn
 have h := run_convert_bytes_arg (P := Tryz.prog) (w.alloc (.cells #[.int .u8 c] 5)) 59 5 Tryz.underlying59 Tryz.underlying5 w.heap.size 0 1 1 [c] rfl (fun i hi => by
  obtain rfl : i = 0 := by omega
  have := alloc_last w (.cells #[.int .u8 c] 5)
  unfold World.cell?
  rw [this]
  rfl) 9 Tryz.underlying9
 exact h
theorem conv_at (c : Int) (w : World) (b : Nat) (h : w.heap[b]? = some (.cells #[.int .u8 c] 5)) : (convert 59 9 (.slice (some ⟨b, 0, none⟩) 1 1)).run Tryz.prog w = .ok (.string ⟨#[u8 c]⟩) w := by
 have h := run_convert_bytes_arg (P := Tryz.prog) w 59 5 Tryz.underlying59 Tryz.underlying5 b 0 1 1 [c] rfl (fun i hi => by
  obtain rfl : i = 0 := by omega
  unfold World.cell?
  rw [h]
  rfl) 9 Tryz.underlying9
 exact h
theorem dd_small {u : Nat} (h : u < 10) : Lib.decDigits u = [u8 (48 + (u : Int) % 10)] := by
 rw [Lib.decDigits, dif_pos h]
 unfold u8
 congr 2 <;> omega
theorem dd_big {u : Nat} (h : ¬ u < 10) : Lib.decDigits u = Lib.decDigits (u / 10) ++ [u8 (48 + (u : Int) % 10)] := by
 rw [Lib.decDigits, dif_neg h]
 unfold u8
 congr 3 <;> omega
set_option maxRecDepth 100000 in
set_option maxHeartbeats 1600000 in
theorem rdig_nat : ∀ (k u : Nat) (w : World), u < k → u ≤ 9999999 →
  Calls Tryz.prog 114 #[.int .i64 (u : Int)] w fun e w' => e = .returned (.string ⟨(Lib.decDigits u).toArray⟩) ∧ Below w.heap.size w w' := by
 intro k
 induction k with
 | zero =>
  intro u w h _
  omega
 | succ k ih =>
  intro u w h hu
  have h0 : ¬ (u : Int) < 0 := by omega
  have hcv := conv_one (48 + (u : Int) % 10) w _ rfl
  by_cases h1 : u < 10
  ·have h1b : (u : Int) < 10 := by omega
   go_enter Tryz.func114, Tryz.ntmps114
   go_wp2_with fail
   go_ret
   exact ⟨by rw [dd_small h1]; rfl, (Below.refl _ w).alloc (Nat.le_refl _) _⟩
  ·have h1b : ¬ (u : Int) < 10 := by omega
   have hdl := dd_len 6 (u / 10) (by have : (10 : Nat) ^ (6 + 1) = 10000000 := by decide
                                     omega)
   go_enter Tryz.func114, Tryz.ntmps114
   go_wp2_with fail
   rw [show (u : Int) / 10 = ((u / 10 : Nat) : Int) by omega]
   refine (ih (u / 10) _ (by omega) (by omega)).mono ?_
   rintro e w1 ⟨rfl, hb⟩
   obtain ⟨d1, hd1⟩ : ∃ d : ByteArray, (⟨(Lib.decDigits (u / 10)).toArray⟩ : ByteArray) = d := ⟨_, rfl⟩
   have hs1 : d1.size ≤ 8 := by rw [← hd1]; show (Lib.decDigits (u / 10)).toArray.size ≤ 8; rw [List.size_toArray]; omega
   rw [hd1]
   have HD1 : Hid (d1.data.toList = Lib.decDigits (u / 10)) := hide (by rw [← hd1])
   have HB := hide (below_after ((Below.refl _ w).alloc (Nat.le_refl _) _) hb)
   clear hb hd1 hcv
   go_wp2_with fail
   go_ret
   refine ⟨ret_str ?_, uh HB⟩
   rw [dd_big h1]
   simp [uh HD1]
set_option maxRecDepth 100000 in
set_option maxHeartbeats 1600000 in
theorem rdigits_any (n : Int) (w : World) (h : -9999999 ≤ n) (h' : n ≤ 9999999) :
  Calls Tryz.prog 114 #[.int .i64 n] w fun e w' => e = .returned (.string ⟨(Lib.itoa n).toArray⟩) ∧ Below w.heap.size w w' := by
 by_cases hn : n < 0
 ·have en : -n = ((n.natAbs : Nat) : Int) := by omega
  have hdl := dd_len 6 n.natAbs (by have : (10 : Nat) ^ (6 + 1) = 10000000 := by decide
                                    omega)
  go_enter Tryz.func114, Tryz.ntmps114
  go_wp2_with fail
  refine (rdig_nat (n.natAbs + 1) n.natAbs _ (by omega) (by omega)).mono ?_
  rintro e w1 ⟨rfl, hb⟩
  obtain ⟨d1, hd1⟩ : ∃ d : ByteArray, (⟨(Lib.decDigits n.natAbs).toArray⟩ : ByteArray) = d := ⟨_, rfl⟩
  have hs1 : d1.size ≤ 8 := by rw [← hd1]; show (Lib.decDigits n.natAbs).toArray.size ≤ 8; rw [List.size_toArray]; omega
  rw [hd1]
  have HD1 : Hid (d1.data.toList = Lib.decDigits n.natAbs) := hide (by rw [← hd1])
  have HB := hide hb
  clear hb hd1
  go_wp2_with fail
  go_ret
  refine ⟨ret_str ?_, uh HB⟩
  unfold Lib.itoa
  rw [if_pos hn]
  simp [uh HD1]
 ·obtain ⟨u, rfl⟩ : ∃ u : Nat, n = (u : Int) := ⟨n.toNat, by omega⟩
  have e : Lib.itoa (u : Int) = Lib.decDigits u := by unfold Lib.itoa; rw [if_neg hn]; rfl
  rw [e]
  exact rdig_nat (u + 1) u w (by omega) (by omega)
set_option maxRecDepth 100000 in
set_option maxHeartbeats 6400000 in
theorem rletters_any (m : Nat) (w : World) (hm : m ≤ 7) :
  Calls Tryz.prog 112 #[.int .i64 (m : Int)] w fun e w' => e = .returned (.string ⟨(markOut m 3).toArray⟩) ∧ Below w.heap.size w w' := by
 rcases (by omega : m = 0 ∨ m = 1 ∨ m = 2 ∨ m = 3 ∨ m = 4 ∨ m = 5 ∨ m = 6 ∨ m = 7) with e | e | e | e | e | e | e | e
 ·subst e
  clear hm
  go_enter Tryz.func112, Tryz.ntmps112
  go_wp2_with fail
  go_loopg [3, 4] 3 (fun g sv i wr => ∃ j : Nat, j ≤ 3 ∧ g = 3 - j ∧ i = .int .i64 (j : Int) ∧ sv = .string ⟨(markOut 0 j).toArray⟩ ∧ Below w.heap.size w wr)
  case atStart => exact ⟨0, by omega, rfl, rfl, rfl, Below.refl _ _⟩
  case round =>
   obtain ⟨j, hj, hg, rfl, rfl, hb⟩ := hrel
   have HB := hide hb
   have hcv := fun c => conv_one c wr _ rfl
   clear hb
   rcases (by omega : j = 0 ∨ j = 1 ∨ j = 2 ∨ j = 3) with e | e | e | e
   all_goals
    subst e
    clear hj
    simp only [markOut]
    go_wp2_with fail
   ·go_roundg 2
    case measure => omega
    case rel => exact ⟨1, by omega, rfl, rfl, rfl, by first | exact uh HB | exact below_after (uh HB) ((Below.refl _ wr).alloc (Nat.le_refl _) _)⟩
   ·go_roundg 1
    case measure => omega
    case rel => exact ⟨2, by omega, rfl, rfl, rfl, by first | exact uh HB | exact below_after (uh HB) ((Below.refl _ wr).alloc (Nat.le_refl _) _)⟩
   ·go_roundg 0
    case measure => omega
    case rel => exact ⟨3, by omega, rfl, rfl, rfl, by first | exact uh HB | exact below_after (uh HB) ((Below.refl _ wr).alloc (Nat.le_refl _) _)⟩
   ·go_ret
    exact ⟨rfl, uh HB⟩
 ·subst e
  clear hm
  go_enter Tryz.func112, Tryz.ntmps112
  go_wp2_with fail
  go_loopg [3, 4] 3 (fun g sv i wr => ∃ j : Nat, j ≤ 3 ∧ g = 3 - j ∧ i = .int .i64 (j : Int) ∧ sv = .string ⟨(markOut 1 j).toArray⟩ ∧ Below w.heap.size w wr)
  case atStart => exact ⟨0, by omega, rfl, rfl, rfl, Below.refl _ _⟩
  case round =>
   obtain ⟨j, hj, hg, rfl, rfl, hb⟩ := hrel
   have HB := hide hb
   have hcv := fun c => conv_one c wr _ rfl
   clear hb
   rcases (by omega : j = 0 ∨ j = 1 ∨ j = 2 ∨ j = 3) with e | e | e | e
   all_goals
    subst e
    clear hj
    simp only [markOut]
    go_wp2_with fail
   ·go_roundg 2
    case measure => omega
    case rel => exact ⟨1, by omega, rfl, rfl, rfl, by first | exact uh HB | exact below_after (uh HB) ((Below.refl _ wr).alloc (Nat.le_refl _) _)⟩
   ·go_roundg 1
    case measure => omega
    case rel => exact ⟨2, by omega, rfl, rfl, rfl, by first | exact uh HB | exact below_after (uh HB) ((Below.refl _ wr).alloc (Nat.le_refl _) _)⟩
   ·go_roundg 0
    case measure => omega
    case rel => exact ⟨3, by omega, rfl, rfl, rfl, by first | exact uh HB | exact below_after (uh HB) ((Below.refl _ wr).alloc (Nat.le_refl _) _)⟩
   ·go_ret
    exact ⟨rfl, uh HB⟩
 ·subst e
  clear hm
  go_enter Tryz.func112, Tryz.ntmps112
  go_wp2_with fail
  go_loopg [3, 4] 3 (fun g sv i wr => ∃ j : Nat, j ≤ 3 ∧ g = 3 - j ∧ i = .int .i64 (j : Int) ∧ sv = .string ⟨(markOut 2 j).toArray⟩ ∧ Below w.heap.size w wr)
  case atStart => exact ⟨0, by omega, rfl, rfl, rfl, Below.refl _ _⟩
  case round =>
   obtain ⟨j, hj, hg, rfl, rfl, hb⟩ := hrel
   have HB := hide hb
   have hcv := fun c => conv_one c wr _ rfl
   clear hb
   rcases (by omega : j = 0 ∨ j = 1 ∨ j = 2 ∨ j = 3) with e | e | e | e
   all_goals
    subst e
    clear hj
    simp only [markOut]
    go_wp2_with fail
   ·go_roundg 2
    case measure => omega
    case rel => exact ⟨1, by omega, rfl, rfl, rfl, by first | exact uh HB | exact below_after (uh HB) ((Below.refl _ wr).alloc (Nat.le_refl _) _)⟩
   ·go_roundg 1
    case measure => omega
    case rel => exact ⟨2, by omega, rfl, rfl, rfl, by first | exact uh HB | exact below_after (uh HB) ((Below.refl _ wr).alloc (Nat.le_refl _) _)⟩
   ·go_roundg 0
    case measure => omega
    case rel => exact ⟨3, by omega, rfl, rfl, rfl, by first | exact uh HB | exact below_after (uh HB) ((Below.refl _ wr).alloc (Nat.le_refl _) _)⟩
   ·go_ret
    exact ⟨rfl, uh HB⟩
 ·subst e
  clear hm
  go_enter Tryz.func112, Tryz.ntmps112
  go_wp2_with fail
  go_loopg [3, 4] 3 (fun g sv i wr => ∃ j : Nat, j ≤ 3 ∧ g = 3 - j ∧ i = .int .i64 (j : Int) ∧ sv = .string ⟨(markOut 3 j).toArray⟩ ∧ Below w.heap.size w wr)
  case atStart => exact ⟨0, by omega, rfl, rfl, rfl, Below.refl _ _⟩
  case round =>
   obtain ⟨j, hj, hg, rfl, rfl, hb⟩ := hrel
   have HB := hide hb
   have hcv := fun c => conv_one c wr _ rfl
   clear hb
   rcases (by omega : j = 0 ∨ j = 1 ∨ j = 2 ∨ j = 3) with e | e | e | e
   all_goals
    subst e
    clear hj
    simp only [markOut]
    go_wp2_with fail
   ·go_roundg 2
    case measure => omega
    case rel => exact ⟨1, by omega, rfl, rfl, rfl, by first | exact uh HB | exact below_after (uh HB) ((Below.refl _ wr).alloc (Nat.le_refl _) _)⟩
   ·go_roundg 1
    case measure => omega
    case rel => exact ⟨2, by omega, rfl, rfl, rfl, by first | exact uh HB | exact below_after (uh HB) ((Below.refl _ wr).alloc (Nat.le_refl _) _)⟩
   ·go_roundg 0
    case measure => omega
    case rel => exact ⟨3, by omega, rfl, rfl, rfl, by first | exact uh HB | exact below_after (uh HB) ((Below.refl _ wr).alloc (Nat.le_refl _) _)⟩
   ·go_ret
    exact ⟨rfl, uh HB⟩
 ·subst e
  clear hm
  go_enter Tryz.func112, Tryz.ntmps112
  go_wp2_with fail
  go_loopg [3, 4] 3 (fun g sv i wr => ∃ j : Nat, j ≤ 3 ∧ g = 3 - j ∧ i = .int .i64 (j : Int) ∧ sv = .string ⟨(markOut 4 j).toArray⟩ ∧ Below w.heap.size w wr)
  case atStart => exact ⟨0, by omega, rfl, rfl, rfl, Below.refl _ _⟩
  case round =>
   obtain ⟨j, hj, hg, rfl, rfl, hb⟩ := hrel
   have HB := hide hb
   have hcv := fun c => conv_one c wr _ rfl
   clear hb
   rcases (by omega : j = 0 ∨ j = 1 ∨ j = 2 ∨ j = 3) with e | e | e | e
   all_goals
    subst e
    clear hj
    simp only [markOut]
    go_wp2_with fail
   ·go_roundg 2
    case measure => omega
    case rel => exact ⟨1, by omega, rfl, rfl, rfl, by first | exact uh HB | exact below_after (uh HB) ((Below.refl _ wr).alloc (Nat.le_refl _) _)⟩
   ·go_roundg 1
    case measure => omega
    case rel => exact ⟨2, by omega, rfl, rfl, rfl, by first | exact uh HB | exact below_after (uh HB) ((Below.refl _ wr).alloc (Nat.le_refl _) _)⟩
   ·go_roundg 0
    case measure => omega
    case rel => exact ⟨3, by omega, rfl, rfl, rfl, by first | exact uh HB | exact below_after (uh HB) ((Below.refl _ wr).alloc (Nat.le_refl _) _)⟩
   ·go_ret
    exact ⟨rfl, uh HB⟩
 ·subst e
  clear hm
  go_enter Tryz.func112, Tryz.ntmps112
  go_wp2_with fail
  go_loopg [3, 4] 3 (fun g sv i wr => ∃ j : Nat, j ≤ 3 ∧ g = 3 - j ∧ i = .int .i64 (j : Int) ∧ sv = .string ⟨(markOut 5 j).toArray⟩ ∧ Below w.heap.size w wr)
  case atStart => exact ⟨0, by omega, rfl, rfl, rfl, Below.refl _ _⟩
  case round =>
   obtain ⟨j, hj, hg, rfl, rfl, hb⟩ := hrel
   have HB := hide hb
   have hcv := fun c => conv_one c wr _ rfl
   clear hb
   rcases (by omega : j = 0 ∨ j = 1 ∨ j = 2 ∨ j = 3) with e | e | e | e
   all_goals
    subst e
    clear hj
    simp only [markOut]
    go_wp2_with fail
   ·go_roundg 2
    case measure => omega
    case rel => exact ⟨1, by omega, rfl, rfl, rfl, by first | exact uh HB | exact below_after (uh HB) ((Below.refl _ wr).alloc (Nat.le_refl _) _)⟩
   ·go_roundg 1
    case measure => omega
    case rel => exact ⟨2, by omega, rfl, rfl, rfl, by first | exact uh HB | exact below_after (uh HB) ((Below.refl _ wr).alloc (Nat.le_refl _) _)⟩
   ·go_roundg 0
    case measure => omega
    case rel => exact ⟨3, by omega, rfl, rfl, rfl, by first | exact uh HB | exact below_after (uh HB) ((Below.refl _ wr).alloc (Nat.le_refl _) _)⟩
   ·go_ret
    exact ⟨rfl, uh HB⟩
 ·subst e
  clear hm
  go_enter Tryz.func112, Tryz.ntmps112
  go_wp2_with fail
  go_loopg [3, 4] 3 (fun g sv i wr => ∃ j : Nat, j ≤ 3 ∧ g = 3 - j ∧ i = .int .i64 (j : Int) ∧ sv = .string ⟨(markOut 6 j).toArray⟩ ∧ Below w.heap.size w wr)
  case atStart => exact ⟨0, by omega, rfl, rfl, rfl, Below.refl _ _⟩
  case round =>
   obtain ⟨j, hj, hg, rfl, rfl, hb⟩ := hrel
   have HB := hide hb
   have hcv := fun c => conv_one c wr _ rfl
   clear hb
   rcases (by omega : j = 0 ∨ j = 1 ∨ j = 2 ∨ j = 3) with e | e | e | e
   all_goals
    subst e
    clear hj
    simp only [markOut]
    go_wp2_with fail
   ·go_roundg 2
    case measure => omega
    case rel => exact ⟨1, by omega, rfl, rfl, rfl, by first | exact uh HB | exact below_after (uh HB) ((Below.refl _ wr).alloc (Nat.le_refl _) _)⟩
   ·go_roundg 1
    case measure => omega
    case rel => exact ⟨2, by omega, rfl, rfl, rfl, by first | exact uh HB | exact below_after (uh HB) ((Below.refl _ wr).alloc (Nat.le_refl _) _)⟩
   ·go_roundg 0
    case measure => omega
    case rel => exact ⟨3, by omega, rfl, rfl, rfl, by first | exact uh HB | exact below_after (uh HB) ((Below.refl _ wr).alloc (Nat.le_refl _) _)⟩
   ·go_ret
    exact ⟨rfl, uh HB⟩
 ·subst e
  clear hm
  go_enter Tryz.func112, Tryz.ntmps112
  go_wp2_with fail
  go_loopg [3, 4] 3 (fun g sv i wr => ∃ j : Nat, j ≤ 3 ∧ g = 3 - j ∧ i = .int .i64 (j : Int) ∧ sv = .string ⟨(markOut 7 j).toArray⟩ ∧ Below w.heap.size w wr)
  case atStart => exact ⟨0, by omega, rfl, rfl, rfl, Below.refl _ _⟩
  case round =>
   obtain ⟨j, hj, hg, rfl, rfl, hb⟩ := hrel
   have HB := hide hb
   have hcv := fun c => conv_one c wr _ rfl
   clear hb
   rcases (by omega : j = 0 ∨ j = 1 ∨ j = 2 ∨ j = 3) with e | e | e | e
   all_goals
    subst e
    clear hj
    simp only [markOut]
    go_wp2_with fail
   ·go_roundg 2
    case measure => omega
    case rel => exact ⟨1, by omega, rfl, rfl, rfl, by first | exact uh HB | exact below_after (uh HB) ((Below.refl _ wr).alloc (Nat.le_refl _) _)⟩
   ·go_roundg 1
    case measure => omega
    case rel => exact ⟨2, by omega, rfl, rfl, rfl, by first | exact uh HB | exact below_after (uh HB) ((Below.refl _ wr).alloc (Nat.le_refl _) _)⟩
   ·go_roundg 0
    case measure => omega
    case rel => exact ⟨3, by omega, rfl, rfl, rfl, by first | exact uh HB | exact below_after (uh HB) ((Below.refl _ wr).alloc (Nat.le_refl _) _)⟩
   ·go_ret
    exact ⟨rfl, uh HB⟩
end Go.Proofs.YthnggjaecngbiaaGreatDoor
namespace Go.Proofs.YthnggjaecngbiaaGreatDoor
open Go.RowKit
theorem tabsTo_succ {its : List PItem} {rs : List (PVal × List Nat)} {j : Nat} (h : j < its.length) (hr : j < rs.length) : tabsTo its rs (j + 1) = tabsTo its rs j ++ (if its[j].isT then [rs[j].1] else []) := by
 rw [tabsTo, getD_at _ _ h, getD_at _ _ hr]
set_option maxRecDepth 100000 in
set_option maxHeartbeats 1600000 in
theorem rEval_any (g : Nat) (its : List PItem) (vl : Value) (vals : List Int) (w : World) (h : RPlanAt w g its) (hv : InSl w vl vals) : Calls Tryz.prog 81 #[.pointer (some ⟨g, 0, none⟩), vl] w (EvalOf its vals w) := by
 have HP := hide h
 obtain ⟨pv, xs, hN, hit, hxs, hwf, hok⟩ := h
 obtain ⟨vo, vc, rfl⟩ := hv.form
 obtain ⟨po, pcap, rfl⟩ := hit.1.form
 have hlen : xs.length ≤ 12 := by have := hok.len; rw [← hxs] at this; simpa using this
 have hxl : xs.length = its.length := by rw [← hxs]; simp
 have HV := hide hv
 have HX := hide hxs
 have HOK := hide hok
 have HXL := hide hxl
 have hcell : ∀ (w' : World) (j : Nat) (hj : j < xs.length), Below w.heap.size w w' → ∃ gi, po = some ⟨gi, 0, none⟩ ∧ gi < w.heap.size ∧ w'.cell? ⟨gi, j * 6 + 2, none⟩ = some (.int .u8 xs[j].it.policy) := fun w' j hj hb => by
  rcases hit.1 with ⟨h0, _⟩ | ⟨gi, cap, hv, hc, hm, hgl, hx⟩
  ·omega
  simp only [Value.slice.injEq] at hv
  obtain ⟨rfl, _, rfl⟩ := hv
  exact ⟨gi, rfl, hgl, (ritem_cells hit.1 hb hj).2.2.1⟩
 have HCELL := hide hcell
 have hgs := lt_of_block hN
 have c0 : w.cell? ⟨g, 0, none⟩ = some (.slice po xs.length pcap) := by simp [World.cell?, hN]
 have HC0 : Hid (∀ w', Below w.heap.size w w' → w'.cell? ⟨g, 0, none⟩ = some (.slice po xs.length pcap)) := hide (fun w' hb => (hb.cell (p := ⟨g, 0, none⟩) hgs).trans c0)
 clear hv hN hit hxs hok hwf hcell
 obtain ⟨i0, hi, hz0, hz1, hz2⟩ := info_parts Tryz.info_value
 go_enter Tryz.func81, Tryz.ntmps81
 go_wp2_with fail
 refine (rall_any g its _ vals _ (uh HP) (uh HV)).mono ?_
 rintro e w1 (⟨hf, rfl, hb1⟩ | ⟨hf, lo, lc, rfl, hb1, hown⟩)
 ·have HF := hide hf
  have HB1 := hide hb1
  clear hf hb1
  go_wp2_with fail
  go_ret2
  exact Or.inl ⟨uh HF, rfl, uh HB1⟩
 ·have HF := hide hf
  have HB1 := hide hb1
  have HL := hide (SlAt.of_owns hown)
  have hrl : (resP its vals).length = its.length := resTo_len its vals _
  obtain ⟨rs, hrs⟩ : ∃ rs, resP its vals = rs := ⟨_, rfl⟩
  have HRS := hide hrs
  rw [hrs] at HL hrl
  rw [← hxl] at HL ⊢
  have hsw1 := hb1.size
  clear hf hb1 hown hrs hxl
  go_wp2_with fail
  go_loopg [8, 9] xs.length (fun gk ov iv wr => ∃ j : Nat, j ≤ xs.length ∧ gk = xs.length - j ∧ iv = .int .i64 (j : Int) ∧ Below w1.heap.size w1 wr ∧ wr.ownsRow w1.heap.size 51 2 ov (tabsTo its rs j).length ((tabsTo its rs j).flatMap vcells))
  case atStart => exact ⟨0, by omega, rfl, rfl, Below.refl _ _, World.ownsRow_nil _ _ _ _⟩
  case round =>
   obtain ⟨j, hj, hg, rfl, hb, hown⟩ := hrel
   have A : Aside (gk = xs.length - j ∧ Below w1.heap.size w1 wr ∧ wr.ownsRow w1.heap.size 51 2 u8 (tabsTo its rs j).length ((tabsTo its rs j).flatMap vcells)) := ⟨hg, hb, hown⟩
   have hbw := below_after (uh HB1) hb
   have c0' := uh HC0 wr hbw
   have hgs' : g < wr.heap.size := Nat.lt_of_lt_of_le hgs hbw.size
   have htl := tabsTo_len its rs j
   have hsz := hb.size
   clear hg
   by_cases hlt : j < xs.length
   ·obtain ⟨gi, rfl, hgi, k2⟩ := uh HCELL wr j hlt hbw
    have hgi' : gi < wr.heap.size := Nat.lt_of_lt_of_le hgi hbw.size
    have hji : j < its.length := by have := uh HXL; omega
    have hjr : j < rs.length := by omega
    have hxe : its[j] = xs[j].it := by simp [← uh HX]
    have hstep := tabsTo_succ hji hjr
    have hcan := (uh HOK).can its[j] (List.getElem_mem hji)
    have hpos : its[j].isT = true → 0 < its[j].policy := fun hT => by
     rcases hcan with hc | hc
     ·have := hc.isT
      rw [hT] at this
      cases this
     ·have := hc.pol
      unfold isPol at this
      simp only [decide_eq_true_eq] at this
      omega
    have hneg : its[j].isT = false → its[j].policy = 0 := fun hT => by
     rcases can_pol hcan with ⟨h1, _⟩ | ⟨_, h2⟩
     ·rw [hT] at h1; cases h1
     ·exact h2
    obtain ⟨g3, rfl, l0, l1, hg3⟩ := ((uh HL).below hb).at2 hlt
    have hv0 := flat_at vcells 2 (fun _ => rfl) (rs.map Prod.fst) j 0 (by simpa using hjr) (by omega)
    have hv1 := flat_at vcells 2 (fun _ => rfl) (rs.map Prod.fst) j 1 (by simpa using hjr) (by omega)
    rw [Nat.add_zero] at hv0
    rw [hv0] at l0
    rw [hv1] at l1
    simp only [vcells, List.getElem?_cons_zero, List.getElem?_cons_succ, List.getElem_map] at l0 l1
    rw [hxe] at hstep hpos hneg
    have hjc : (j : Int) < xs.length := by omega
    have HST := hide hstep
    clear hv0 hv1 hstep hcan hxe hb hbw hown
    generalize rs[j].1 = y at *
    obtain ⟨y0, y1⟩ := y
    generalize xs[j].it = it at *
    simp only at l0 l1
    have hcl : (tabsTo its rs j).length ≤ 12 := by omega
    cases hT : it.isT with
    | true =>
     have hpp := hpos hT
     rw [hT, if_pos rfl] at HST
     clear hpos hneg hT
     go_wp2_with (at_builtin; refine wpList_append_lies _ (by rfl) _ _ _ (by rfl) w1.heap.size 51 i0 _ 2 16 Tryz.underlying47 hi hz0 hz1 hz2 rfl (by decide) u8 (tabsTo its rs j).length ((tabsTo its rs j).flatMap vcells) (by rfl) (A.out.2.2.alloc _) ⟨wr.heap.size, 0, none⟩ 1 1 [.int .i64 y0, .int .i64 y1] (by rfl) (by rfl) (World.news_of_block (cs := #[.int .i64 y0, .int .i64 y1]) (t := 51) (fr := (0, 0)) (heap_alloc_new wr _)) (by simp [Value.oneCell']) (by decide) (by unfold maxLen; omega) (by omega) (by simp; omega) (wr.heap.size + 1) (by simp) ?_; intro gg cap w8 hown8 hgrow8 hat8 hlt8; have AB := hide (And.intro (below_grown (A.out.2.1.alloc hsz _) hgrow8 (fun q hq => (A.out.2.2.lt q hq).1)) hown8); clear hown8 hgrow8 hat8 hlt8)
     go_roundg (xs.length - (j + 1))
     case measure => have := A.out.1; omega
     case rel => exact ⟨j + 1, by omega, rfl, by go_num, (uh AB).1, by rw [uh HST, List.flatMap_append, List.length_append]; exact (uh AB).2⟩
    | false =>
     have hpp := hneg hT
     rw [hT, if_neg (by simp), List.append_nil] at HST
     rw [hpp] at k2
     clear hpos hneg hT
     go_wp2_with fail
     go_roundg (xs.length - (j + 1))
     case measure => have := A.out.1; omega
     case rel => exact ⟨j + 1, by omega, rfl, by go_num, A.out.2.1, by rw [uh HST]; exact A.out.2.2⟩
   ·have hje : j = its.length := by have := uh HXL; omega
    have hjc : ¬ (j : Int) < xs.length := by omega
    have HJ := hide hje
    obtain ⟨ao, k, cap, hu8⟩ := owns_form hown
    have hk : k = (tabsTo its rs j).length := owns_len (hu8 ▸ hown)
    subst hu8 hk
    clear hje hb hown hbw
    go_wp2_with fail
    go_ret2
    obtain ⟨_, a3, a4⟩ := A.out
    rw [uh HJ] at a4 ⊢
    have ht : tabsTo its rs its.length = tabsP its vals := by rw [← uh HRS]; rfl
    rw [ht] at a4 ⊢
    exact Or.inr ⟨uh HF, ao, cap, rfl, below_after (uh HB1) a3, owns_base a4 hsw1⟩
set_option maxRecDepth 100000 in
set_option maxHeartbeats 800000 in
theorem rshown_any (v : PVal) (w : World) (h : -9999999 ≤ v.n) (h' : v.n ≤ 9999999) :
  Calls Tryz.prog 116 #[.agg #[.int .i64 v.kind, .int .i64 v.n]] w fun e w' => e = .returned (.string ⟨(shownOut v).toArray⟩) ∧ Below w.heap.size w w' := by
 obtain ⟨k, n⟩ := v
 simp only at h h'
 simp only
 by_cases h1 : k = 1
 ·subst h1
  go_enter Tryz.func116, Tryz.ntmps116
  go_wp2_with fail
  go_ret
  exact ⟨rfl, (Below.refl _ w).alloc (Nat.le_refl _) _⟩
 ·by_cases h2 : k = 2
  ·subst h2
   go_enter Tryz.func116, Tryz.ntmps116
   go_wp2_with fail
   go_ret
   exact ⟨rfl, (Below.refl _ w).alloc (Nat.le_refl _) _⟩
  ·have b1 : (k == 1) = false := by simpa using h1
   have b2 : (k == 2) = false := by simpa using h2
   have HE : Hid (shownOut ⟨k, n⟩ = Lib.itoa n) := hide (by unfold shownOut; simp [h1, h2])
   have HB := hide ((Below.refl _ w).alloc (Nat.le_refl _) (.cells #[.int .i64 k, .int .i64 n] 51))
   go_enter Tryz.func116, Tryz.ntmps116
   go_wp2_with fail
   refine (rdigits_any n _ h h').mono ?_
   rintro e w1 ⟨rfl, hb1⟩
   have HB1 := hide (below_after (uh HB) hb1)
   clear hb1
   go_wp2_with fail
   go_ret
   rw [uh HE]
   exact ⟨rfl, uh HB1⟩
end Go.Proofs.YthnggjaecngbiaaGreatDoor
