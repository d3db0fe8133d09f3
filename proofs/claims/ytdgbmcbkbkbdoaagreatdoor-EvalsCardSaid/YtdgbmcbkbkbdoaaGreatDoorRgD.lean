import Derived.Test.YtdgbmcbkbkbdoaaGreatDoorRgB
import Derived.Test.YtdgbmcbkbkbdoaaGreatDoorRgA
import Derived.Test.YtdgbmcbkbkbdoaaGreatDoorEvA
import Derived.Test.YtdgbmcbkbkbdoaaGreatDoorEvD
namespace Go.Proofs.YtdgbmcbkbkbdoaaGreatDoor
open Go.RowKit
def riv (x : LItem) : Value := .agg (ricells x.it x.cv x.rv)
theorem zip_snd {α β : Type} : ∀ {a : List α} {b : List β}, a.length = b.length → (a.zip b).map Prod.snd = b
 | [], [], _ => rfl
 | _ :: _, [], h => by simp at h
 | [], _ :: _, h => by simp at h
 | _ :: a, _ :: b, h => by simp only [List.zip_cons_cons, List.map_cons]; rw [zip_snd (by simpa using h)]
set_option maxRecDepth 100000 in
set_option maxHeartbeats 3200000 in
theorem rmet_any (x : LItem) (bv : Value) (vs : List PVal) (w : World) (hx : RItemV w x) (hl : x.it.rules.length ≤ 1000) (ht : ∀ r ∈ x.it.rules, r.tests.length = vs.length ∧ ∀ t ∈ r.tests, WfT t)
  (hvs : SlAt w 2 bv vs.length (vs.flatMap vcells)) (hvl : vs.length ≤ 1000) :
  Calls Tryz.prog 105 #[riv x, bv] w fun e w' => ∃ v, e = .returned v ∧ Below w.heap.size w w' ∧ w'.ownsRow w.heap.size 3 1 v (metP x.it.rules vs).length (nats (metP x.it.rules vs)) := by
 obtain ⟨⟨nm, bT, mk, po, cs, dr, rl⟩, cv, rv, zv⟩ := x
 obtain ⟨bo, bcap, rfl⟩ := hvs.form
 obtain ⟨co, cc, hcv⟩ := hx.2.1.form
 obtain ⟨ro, rc, hrv⟩ := hx.2.2.1.form
 obtain ⟨hz, _, hrs, hts⟩ := hx
 simp only at hcv hrv hz hrs hts hl ht
 subst hcv hrv
 simp only [riv, ricells, rmarks, rdrops]
 obtain ⟨mi, hmi⟩ : ∃ mi : Int, (if bT = true then (dr : Int) else (mk : Int)) = mi := ⟨_, rfl⟩
 obtain ⟨db, hdb⟩ : ∃ db, (bT && decide (dr ≠ 0)) = db := ⟨_, rfl⟩
 rw [hmi, hdb]
 clear hmi hdb
 rw [rcells_z] at hrs
 have hmap := zip_snd hz
 have hzl : (zv.zip rl).length = rl.length := by simp [hz]
 have HT : Hid (∀ y ∈ zv.zip rl, y.2.tests.length = vs.length ∧ ∀ t ∈ y.2.tests, WfT t) := hide (fun y hy => ht y.2 (List.of_mem_zip hy).2)
 have HTS := hide hts
 clear hts ht
 generalize zv.zip rl = zs at *
 subst hmap
 simp only [List.length_map] at hrs hl hzl ⊢
 clear hz hzl
 have HV := hide hrs
 have HW := hide hvs
 clear hrs hvs
 obtain ⟨i0, hi, hz0, hz1, hz2⟩ := info_parts Tryz.info_int
 obtain ⟨w1, hw1⟩ : ∃ w1, w1 = w.alloc (.cells #[.string nm, .int .i64 mi, .int .u8 po, .bool db, .slice co cs.length cc, .slice ro zs.length rc] 134) := ⟨_, rfl⟩
 have HB1 : Hid (Below w.heap.size w w1) := hide (by rw [hw1]; exact (Below.refl _ w).alloc (Nat.le_refl _) _)
 have HN1 : Hid (w1.heap[w.heap.size]? = some (.cells #[.string nm, .int .i64 mi, .int .u8 po, .bool db, .slice co cs.length cc, .slice ro zs.length rc] 134)) := hide (by rw [hw1]; exact alloc_last w _)
 go_enter Tryz.func105, Tryz.ntmps105
 go_wp2_with fail
 rw [← hw1]
 clear hw1
 go_loopg [5, 6] zs.length (fun g pv i wr => ∃ j : Nat, j ≤ zs.length ∧ g = zs.length - j ∧ i = .int .i64 (j : Int) ∧ Below w1.heap.size w1 wr ∧ wr.ownsRow w1.heap.size 3 1 pv (metTo (zs.map Prod.snd) vs j).length (nats (metTo (zs.map Prod.snd) vs j)))
 case atStart => exact ⟨0, by omega, rfl, rfl, Below.refl _ _, World.ownsRow_nil _ _ _ _⟩
 case round =>
  obtain ⟨j, hj, hg, rfl, hb, hown⟩ := hrel
  have hml := metTo_len (zs.map Prod.snd) vs j
  have A : Aside (gk = zs.length - j ∧ Below w1.heap.size w1 wr ∧ wr.ownsRow w1.heap.size 3 1 u5 (metTo (zs.map Prod.snd) vs j).length (nats (metTo (zs.map Prod.snd) vs j))) := ⟨hg, hb, hown⟩
  have hNr := (hb.block _ (lt_of_block (uh HN1))).trans (uh HN1)
  obtain ⟨e0, e1, e2, e3, e4, e5⟩ := cells6b hNr
  have hse := lt_of_block hNr
  clear hg hown e0 e1 e2 e3 e4
  by_cases hlt : j < zs.length
  ·have hbw := below_after (uh HB1) hb
   have hms : metTo (zs.map Prod.snd) vs (j + 1) = metTo (zs.map Prod.snd) vs j ++ (if ruleMet zs[j].2.tests vs then [j] else []) := by
    have := metTo_succ (zs.map Prod.snd) vs j (by simpa using hlt)
    simpa using this
   have HM := hide hms
   have hyl := (uh HT) zs[j] (List.getElem_mem hlt)
   have HYT := hide hyl.2
   have hjc : (j : Int) < zs.length := by omega
   have HRW : Hid (Below w.heap.size w wr) := hide hbw
   clear hms hb hbw
   go_wp2_with fail
   obtain ⟨w2, hw2⟩ : ∃ w2, w2 = wr := ⟨_, rfl⟩
   subst hw2
   go_loopg [7, 8] vs.length (fun g yv kv wx => ∃ m : Nat, m ≤ vs.length ∧ g = vs.length - m ∧ kv = .int .i64 (m : Int) ∧ yv = .bool (ruleTo zs[j].2.tests vs m) ∧ Below w2.heap.size w2 wx)
   case atStart => exact ⟨0, by omega, rfl, rfl, by simp [ruleTo], Below.refl _ _⟩
   case round =>
    obtain ⟨m, hm, hg, rfl, rfl, hb⟩ := hrel
    have B : Aside (gk = vs.length - m ∧ Below w2.heap.size w2 wr) := ⟨hg, hb⟩
    clear hg
    by_cases hmt : m < vs.length
    ·have hmy : m < zs[j].2.tests.length := by rw [hyl.1]; exact hmt
     have hbw := below_after (uh HRW) hb
     rcases (uh HV).below hbw with ⟨h0, _⟩ | ⟨g1, cap1, hv1, hc1, hm1, hgl1, hx1⟩
     ·omega
     rcases (uh HTS zs[j] (List.getElem_mem hlt)).below hbw with ⟨h0, _⟩ | ⟨g2, cap2, hv2, hc2, hm2, hgl2, hx2⟩
     ·omega
     rcases (uh HW).below hbw with ⟨h0, _⟩ | ⟨g3, cap3, hv3, hc3, hm3, hgl3, hx3⟩
     ·omega
     have key1 : ∀ i, i < 2 → wr.cell? ⟨g1, j * 2 + i, none⟩ = (zcells zs[j])[i]? := fun i hi => by
      rw [hx1 _ (by omega)]
      exact flat_at zcells 2 (fun _ => rfl) zs j i hlt hi
     have key2 : ∀ i, i < 4 → wr.cell? ⟨g2, m * 4 + i, none⟩ = (rtcells zs[j].2.tests[m])[i]? := fun i hi => by
      rw [hx2 _ (by omega)]
      exact flat_at rtcells 4 (fun _ => rfl) zs[j].2.tests m i hmy hi
     have key3 : ∀ i, i < 2 → wr.cell? ⟨g3, m * 2 + i, none⟩ = (vcells vs[m])[i]? := fun i hi => by
      rw [hx3 _ (by omega)]
      exact flat_at vcells 2 (fun _ => rfl) vs m i hmt hi
     have j0 := key1 0 (by omega)
     have k0 := key2 0 (by omega)
     have k1 := key2 1 (by omega)
     have k2 := key2 2 (by omega)
     have k3 := key2 3 (by omega)
     have l0 := key3 0 (by omega)
     have l1 := key3 1 (by omega)
     simp only [zcells, rtcells, vcells, List.getElem?_cons_zero, List.getElem?_cons_succ, Nat.add_zero] at j0 k0 k1 k2 k3 l0 l1
     have hst := ruleTo_succ zs[j].2.tests vs m hmy hmt
     have hwt := (uh HYT) zs[j].2.tests[m] (List.getElem_mem hmy)
     have e5' : wr.cell? ⟨w.heap.size, 5, none⟩ = some (.slice ro zs.length rc) := by rw [hb.cell (p := ⟨w.heap.size, 5, none⟩) hse]; exact e5
     have hse' : w.heap.size < wr.heap.size := Nat.lt_of_lt_of_le hse hb.size
     have hmc : (m : Int) < zs[j].2.tests.length := by omega
     have hmd : (m : Int) < vs.length := by omega
     have hlen : zs[j].2.tests.length ≤ 1000 := by rw [hyl.1]; exact hvl
     rw [hv2] at j0
     simp only [Value.slice.injEq] at hv1 hv3
     obtain ⟨rfl, _, rfl⟩ := hv1
     obtain ⟨rfl, _, rfl⟩ := hv3
     have HS := hide hst
     have HWT := hide hwt
     clear e5 key1 key2 key3 hx1 hx2 hx3 hc1 hc3 hm1 hm2 hm3 hb hst hwt hbw hv2
     obtain ⟨r1, hr1⟩ : ∃ r1, ruleTo zs[j].2.tests vs (m + 1) = r1 := ⟨_, rfl⟩
     have HR1 := hide hr1
     rw [hr1] at HS
     clear hr1
     generalize ruleTo zs[j].2.tests vs m = r0 at *
     generalize zs[j].2.tests[m] = t at *
     have hnt := hyl.1
     generalize zs[j].2.tests.length = nt at *
     subst hnt
     generalize vs[m] = x at *
     obtain ⟨t0, t1, t2, t3⟩ := t
     obtain ⟨x0, x1⟩ := x
     simp only at k0 k1 k2 k3 l0 l1 HS
     have HCE : Hid (∀ w', Below wr.heap.size wr w' → w'.cell? ⟨w.heap.size, 5, none⟩ = some (.slice (some ⟨g1, 0, none⟩) zs.length rc) ∧ w'.cell? ⟨g1, j * 2, none⟩ = some (.slice (some ⟨g2, 0, none⟩) vs.length cap2) ∧ (w'.cell? ⟨g2, m * 4, none⟩ = some (.int .u8 (rkind t1)) ∧ w'.cell? ⟨g2, m * 4 + 1, none⟩ = some (.int .i64 (t0 : Int)) ∧ w'.cell? ⟨g2, m * 4 + 2, none⟩ = some (.int .i64 t2) ∧ w'.cell? ⟨g2, m * 4 + 3, none⟩ = some (.int .i64 t3)) ∧ w'.cell? ⟨g3, m * 2, none⟩ = some (.int .i64 x0) ∧ w'.cell? ⟨g3, m * 2 + 1, none⟩ = some (.int .i64 x1)) := hide (fun w' hb' => ⟨(hb'.cell (p := ⟨w.heap.size, 5, none⟩) hse').trans e5', (hb'.cell (p := ⟨g1, j * 2, none⟩) hgl1).trans j0, ⟨(hb'.cell (p := ⟨g2, m * 4, none⟩) hgl2).trans k0, (hb'.cell (p := ⟨g2, m * 4 + 1, none⟩) hgl2).trans k1, (hb'.cell (p := ⟨g2, m * 4 + 2, none⟩) hgl2).trans k2, (hb'.cell (p := ⟨g2, m * 4 + 3, none⟩) hgl2).trans k3⟩, (hb'.cell (p := ⟨g3, m * 2, none⟩) hgl3).trans l0, (hb'.cell (p := ⟨g3, m * 2 + 1, none⟩) hgl3).trans l1⟩)
     go_wp2_with fail
     go_region_held3 (fun w' => w'.cell? ⟨w.heap.size, 5, none⟩ = some (.slice (some ⟨g1, 0, none⟩) zs.length rc) ∧ w'.cell? ⟨g1, j * 2, none⟩ = some (.slice (some ⟨g2, 0, none⟩) vs.length cap2) ∧ (w'.cell? ⟨g2, m * 4, none⟩ = some (.int .u8 (rkind t1)) ∧ w'.cell? ⟨g2, m * 4 + 1, none⟩ = some (.int .i64 (t0 : Int)) ∧ w'.cell? ⟨g2, m * 4 + 2, none⟩ = some (.int .i64 t2) ∧ w'.cell? ⟨g2, m * 4 + 3, none⟩ = some (.int .i64 t3)) ∧ w'.cell? ⟨g3, m * 2, none⟩ = some (.int .i64 x0) ∧ w'.cell? ⟨g3, m * 2 + 1, none⟩ = some (.int .i64 x1)) (go_keep) (first | (go_at_call 128; refine (rmeets_any ⟨t0, t1, t2, t3⟩ x0 x1 _ (uh HWT)).mono ?_; rintro e w5 ⟨rfl, hb5⟩; have HB5 := hide (below_of_drew hb5); obtain ⟨z0, z1, ⟨z2, z3, z4, z5⟩, z6, z7⟩ := uh HCE _ (below_of_drew hb5); clear hb5))
     clear z0 z1 z2 z3 z4 z5 z6 z7 e5' j0 k0 k1 k2 k3 l0 l1
     generalize meetsP ⟨t0, t1, t2, t3⟩ x0 x1 = mb at *
     have HBX := hide (below_after B.out.2 (uh HB5))
     cases r0
     all_goals
      cases mb
      all_goals
       go_wp2_with fail
       go_roundg (vs.length - (m + 1))
       case measure => have := B.out.1; omega
       case rel => exact ⟨m + 1, by omega, rfl, by go_num, by rw [uh HR1, uh HS]; rfl, uh HBX⟩
    ·have hme : m = vs.length := by omega
     subst hme
     have hrm : ruleTo zs[j].2.tests vs vs.length = ruleMet zs[j].2.tests vs := by rw [← hyl.1]; exact ruleTo_all _ _ hyl.1
     rw [hrm]
     have HM2 := uh HM
     have hown3 := owns_below A.out.2.2 B.out.2
     have hbel3 := below_after A.out.2.1 B.out.2
     have AA : Aside (Below w1.heap.size w1 wr ∧ wr.ownsRow w1.heap.size 3 1 u5 (metTo (zs.map Prod.snd) vs j).length (nats (metTo (zs.map Prod.snd) vs j))) := ⟨hbel3, hown3⟩
     have hsz := hbel3.size
     have hcl : (metTo (zs.map Prod.snd) vs j).length ≤ 1000 := by omega
     clear hb hown3 hbel3 hrm e5
     cases hR : ruleMet zs[j].2.tests vs with
     | true =>
      rw [hR, if_pos rfl] at HM2
      have HMM := hide HM2
      clear HM2 hR
      go_wp2_with (at_builtin; refine wpList_append_lies _ (by rfl) _ _ _ (by rfl) w1.heap.size 3 i0 _ 1 8 Tryz.underlying25 hi hz0 hz1 hz2 rfl (by decide) u5 (metTo (zs.map Prod.snd) vs j).length (nats (metTo (zs.map Prod.snd) vs j)) (by rfl) (AA.out.2.alloc _) ⟨wr.heap.size, 0, none⟩ 1 1 [.int .i64 (j : Int)] (by rfl) (by rfl) (World.news_of_block (cs := #[.int .i64 (j : Int)]) (t := 3) (fr := (0, 0)) (heap_alloc_new wr _)) (by simp [Value.oneCell']) (by decide) (by unfold maxLen; omega) (by omega) (by simp; omega) (wr.heap.size + 1) (by simp) ?_; intro gg cap w7 hown7 hgrow7 hat7 hlt7; have AB := hide (And.intro (below_grown (AA.out.1.alloc hsz _) hgrow7 (fun q hq => (AA.out.2.lt q hq).1)) hown7); clear hown7 hgrow7 hat7 hlt7)
      go_roundg (zs.length - (j + 1))
      case measure => have := A.out.1; omega
      case rel =>
       refine ⟨j + 1, by omega, rfl, by go_num, (uh AB).1, ?_⟩
       rw [uh HMM, nats_app, List.length_append]
       exact (uh AB).2
     | false =>
      rw [hR, if_neg (by simp), List.append_nil] at HM2
      have HMM := hide HM2
      clear HM2 hR
      go_wp2_with fail
      go_roundg (zs.length - (j + 1))
      case measure => have := A.out.1; omega
      case rel =>
       refine ⟨j + 1, by omega, rfl, by go_num, AA.out.1, ?_⟩
       rw [uh HMM]
       exact AA.out.2
  ·have hje : j = zs.length := by omega
   have HJ := hide hje
   have hjc : ¬ (j : Int) < zs.length := by omega
   clear hje hb
   go_wp2
   go_ret
   obtain ⟨_, a2, a3⟩ := A.out
   rw [uh HJ] at a3
   refine ⟨_, rfl, below_after (uh HB1) a2, ?_⟩
   unfold metP
   rw [List.length_map]
   exact owns_base a3 (uh HB1).size
end Go.Proofs.YtdgbmcbkbkbdoaaGreatDoor
namespace Go.Proofs.YtdgbmcbkbkbdoaaGreatDoor
open Go.RowKit
theorem numsOf_get {rs : List PRule} {l : List Nat} {j : Nat} (h : j < l.length) (h2 : l[j] < rs.length) : (numsOf rs l)[j]? = some rs[l[j]].num := by
 unfold numsOf
 rw [List.getElem?_map, List.getElem?_eq_getElem h]
 simp only [Option.map_some, numOf, List.getElem?_eq_getElem h2]
theorem numsOf_len (rs : List PRule) (l : List Nat) : (numsOf rs l).length = l.length := by simp [numsOf]
theorem take_fold (l : List Int) (f : Int → Int → Int) (a : Int) {j : Nat} {x : Int} (h : l[j]? = some x) : (l.take (j + 1)).foldl f a = f ((l.take j).foldl f a) x := by
 have hj : j < l.length := (List.getElem?_eq_some_iff.1 h).1
 have hx : l[j] = x := (List.getElem?_eq_some_iff.1 h).2
 rw [List.take_succ_eq_append_getElem hj, List.foldl_append, hx]
 rfl
set_option maxRecDepth 100000 in
set_option maxHeartbeats 3200000 in
theorem rvalue_any (x : LItem) (lv : Value) (l : List Nat) (w : World) (hx : RItemV w x) (hr : x.it.rules.length ≤ 1000) (hl : ∀ i ∈ l, i < x.it.rules.length) (hll : l.length ≤ 1000) (hnb : ∀ r ∈ x.it.rules, -1000000 ≤ r.num ∧ r.num ≤ 1000000) (hlv : SlAt w 1 lv l.length (nats l)) :
  Calls Tryz.prog 127 #[riv x, lv] w fun e w' => e = .returned (vv (decideP x.it.policy (numsOf x.it.rules l))) ∧ Below w.heap.size w w' := by
 obtain ⟨⟨nm, bT, mk, po, cs, dr, rl⟩, cv, rv, zv⟩ := x
 obtain ⟨lo, lc, rfl⟩ := hlv.form
 obtain ⟨co, cc, hcv⟩ := hx.2.1.form
 obtain ⟨ro, rc, hrv⟩ := hx.2.2.1.form
 obtain ⟨hz, _, hrs, _⟩ := hx
 simp only at hcv hrv hz hrs hr hl hnb
 subst hcv hrv
 simp only [riv, ricells, rmarks, rdrops]
 obtain ⟨mi, hmi⟩ : ∃ mi : Int, (if bT = true then (dr : Int) else (mk : Int)) = mi := ⟨_, rfl⟩
 obtain ⟨db, hdb⟩ : ∃ db, (bT && decide (dr ≠ 0)) = db := ⟨_, rfl⟩
 rw [hmi, hdb]
 clear hmi hdb
 have HCELL : Hid (∀ (w' : World) (j : Nat) (hj : j < l.length), Below w.heap.size w w' → ∃ g1 g2 q, ro = some ⟨g1, 0, none⟩ ∧ lo = some ⟨g2, 0, none⟩ ∧ w'.cell? ⟨g2, j, none⟩ = some (.int .i64 ((l[j] : Nat) : Int)) ∧ (l[j] < rl.length) ∧ l[j] < rc ∧ j < lc ∧ w'.cell? ⟨g1, l[j] * 2 + 1, none⟩ = some (.int .i64 q) ∧ (numsOf rl l)[j]? = some q ∧ g1 < w'.heap.size ∧ g2 < w'.heap.size ∧ -1000000 ≤ q ∧ q ≤ 1000000) := hide (fun w' j hj hb => by
  have hlj := hl l[j] (List.getElem_mem hj)
  rcases hrs.below hb with ⟨h0, _⟩ | ⟨g1, cap1, hv1, hc1, hm1, hgl1, hx1⟩
  ·omega
  rcases hlv.below hb with ⟨h0, _⟩ | ⟨g2, cap2, hv2, hc2, hm2, hgl2, hx2⟩
  ·omega
  simp only [Value.slice.injEq] at hv1 hv2
  obtain ⟨rfl, _, rfl⟩ := hv1
  obtain ⟨rfl, _, rfl⟩ := hv2
  refine ⟨g1, g2, rl[l[j]].num, rfl, rfl, ?_, hlj, by omega, by omega, ?_, numsOf_get hj hlj, hgl1, hgl2, hnb _ (List.getElem_mem hlj)⟩
  ·rw [hx2 j (by omega)]
   simp [nats, hj]
  ·rw [hx1 _ (by omega), rcells_z]
   have hzz : l[j] < (zv.zip rl).length := by simp [hz]; exact hlj
   rw [flat_at zcells 2 (fun _ => rfl) (zv.zip rl) l[j] 1 hzz (by omega)]
   simp [zcells])
 have hnl := numsOf_len rl l
 have hbd : ∀ x ∈ numsOf rl l, -1000000 ≤ x ∧ x ≤ 1000000 := fun x hx => by
  obtain ⟨j, hj, rfl⟩ := List.getElem_of_mem hx
  have hjl : j < l.length := by rw [← hnl]; exact hj
  obtain ⟨_, _, q, _, _, _, _, _, _, _, hq, _, _, hq1, hq2⟩ := uh HCELL w j hjl (Below.refl _ _)
  rw [List.getElem?_eq_getElem hj] at hq
  simp only [Option.some.injEq] at hq
  rw [hq]
  exact ⟨hq1, hq2⟩
 have HBD := hide hbd
 have HNL := hide hnl
 clear hbd hnl hlv hrs hnb hz hl
 generalize hns : numsOf rl l = ns at *
 clear hns
 obtain ⟨w1, hw1⟩ : ∃ w1, w1 = (w.alloc (.cells #[.string nm, .int .i64 mi, .int .u8 po, .bool db, .slice co cs.length cc, .slice ro rl.length rc] 134)).alloc (.cells #[.int .i64 0, .int .i64 0] 51) := ⟨_, rfl⟩
 have HB1 : Hid (Below w.heap.size w w1) := hide (by rw [hw1]; exact ((Below.refl _ w).alloc (Nat.le_refl _) _).alloc (by simp) _)
 have HN1 : Hid (w1.heap[w.heap.size]? = some (.cells #[.string nm, .int .i64 mi, .int .u8 po, .bool db, .slice co cs.length cc, .slice ro rl.length rc] 134)) := hide (by rw [hw1, Below.heap_alloc _ _ _ (by simp)]; exact alloc_last w _)
 have HR1 : Hid (w1.heap[w.heap.size + 1]? = some (.cells #[.int .i64 0, .int .i64 0] 51)) := hide (by
  have := alloc_last (w.alloc (.cells #[.string nm, .int .i64 mi, .int .u8 po, .bool db, .slice co cs.length cc, .slice ro rl.length rc] 134)) (.cells #[.int .i64 0, .int .i64 0] 51)
  rw [hw1]
  simpa using this)
 by_cases hN : po = 78
 ·subst hN
  have HE : Hid (decideP 78 ns = ⟨0, (l.length : Int)⟩) := hide (by unfold decideP; rw [if_neg (by decide), if_pos rfl, uh HNL])
  clear hw1
  go_enter Tryz.func127, Tryz.ntmps127
  go_wp2
  refine bodyPost_ret (v := vv (decideP 78 ns)) (by rw [uh HE]; simp [results, Tryz.results127, go_sem, vv]) rfl ⟨rfl, ((Below.refl _ w).alloc (Nat.le_refl _) _).alloc (by simp) _⟩
 ·have b78 : (po == 78) = false := by simpa using hN
  go_enter Tryz.func127, Tryz.ntmps127
  go_wp2_with fail
  rw [← hw1]
  clear hw1
  go_loopg [5, 6] l.length (fun gk sv iv wr => ∃ j : Nat, j ≤ l.length ∧ gk = l.length - j ∧ iv = .int .i64 (j : Int) ∧ sv = .int .i64 ((ns.take j).foldl (· + ·) 0) ∧ Below w1.heap.size w1 wr)
  case atStart => exact ⟨0, by omega, rfl, rfl, rfl, Below.refl _ _⟩
  case round =>
   obtain ⟨j, hj, hg, rfl, rfl, hb⟩ := hrel
   have A : Aside (gk = l.length - j ∧ Below w1.heap.size w1 wr) := ⟨hg, hb⟩
   clear hg
   have hNr := (hb.block _ (lt_of_block (uh HN1))).trans (uh HN1)
   obtain ⟨e0, e1, e2, e3, e4, e5⟩ := cells6b hNr
   have hse := lt_of_block hNr
   have hRr := (hb.block _ (lt_of_block (uh HR1))).trans (uh HR1)
   obtain ⟨⟨b0, b1⟩, f0, f1⟩ := box2 hRr
   have hsr := lt_of_block hRr
   have HNR := hide hRr
   have hbw := below_after (uh HB1) hb
   have HBR := hide hbw
   clear e0 e1 e3 e4 hNr hRr
   have hfb := foldl_bd (ns.take j) 0 (fun x hx => uh HBD x (List.mem_of_mem_take hx))
   have htl : (ns.take j).length ≤ 1000 := by rw [List.length_take, uh HNL]; omega
   by_cases hlt : j < l.length
   ·obtain ⟨g1, g2, q, rfl, rfl, c2, hlr, hlrc, hjlc, c1, hq, hg1, hg2, hq1, hq2⟩ := uh HCELL wr j hlt hbw
    have HQ := hide (take_fold ns (· + ·) 0 hq)
    have hjc : (j : Int) < l.length := by omega
    have hlr' : ((l[j] : Nat) : Int) < rl.length := by omega
    generalize l[j] = lj at *
    generalize (ns.take j).foldl (· + ·) 0 = s0 at *
    clear hq hb hbw b0 b1 f0 f1
    go_wp2_with fail
    go_region
    all_goals
     go_wp2
     go_roundg (l.length - (j + 1))
     case measure => have := A.out.1; omega
     case rel => exact ⟨j + 1, by omega, rfl, by go_num, by rw [uh HQ], A.out.2.drew⟩
   ·have hjc : ¬ (j : Int) < l.length := by omega
    have hje : j = l.length := by omega
    have htk : ns.take j = ns := by rw [hje, ← uh HNL, List.take_length]
    rw [htk] at hfb htl ⊢
    clear hje htk
    by_cases hS : po = 83
    ·subst hS
     have HE : Hid (decideP 83 ns = ⟨0, ns.foldl (· + ·) 0⟩) := hide (by unfold decideP; rw [if_pos rfl])
     generalize ns.foldl (· + ·) 0 = s0 at *
     clear hb hbw
     go_wp2
     obtain ⟨⟨d0, d1⟩, _⟩ := box2 (box2_set (x := .int .i64 (0)) (y := .int .i64 (s0)) (uh HNR))
     refine bodyPost_ret (v := vv (decideP 83 ns)) (by rw [uh HE]; simp [results, Tryz.results127, go_sem, d0, d1, vv]) rfl ⟨rfl, below_set2 _ _ (uh HBR) (by omega)⟩
    ·have b83 : (po == 83) = false := by simpa using hS
     generalize ns.foldl (· + ·) 0 = s0 at *
     by_cases h0 : l.length = 0
     ·have HE : Hid (decideP po ns = ⟨1, 0⟩) := hide (by
       have hn0 : ns = [] := List.eq_nil_of_length_eq_zero (by rw [uh HNL]; exact h0)
       unfold decideP
       rw [if_neg hS, if_neg hN, hn0])
      have l0 : ((l.length : Int) == 0) = true := by simp [h0]
      clear hlt hj hb hbw h0
      go_wp2
      obtain ⟨⟨d0, d1⟩, _⟩ := box2 (box2_set (x := .int .i64 (1)) (y := .int .i64 (0)) (uh HNR))
      refine bodyPost_ret (v := vv (decideP po ns)) (by rw [uh HE]; simp [results, Tryz.results127, go_sem, d0, d1, vv]) rfl ⟨rfl, below_set2 _ _ (uh HBR) (by omega)⟩
     ·have l0 : ((l.length : Int) == 0) = false := by rw [beq_eq_false_iff_ne]; omega
      obtain ⟨q0, tl, hnt⟩ : ∃ q0 tl, ns = q0 :: tl := by
       cases hq : ns with
       | nil => rw [hq] at HNL; have := uh HNL; simp at this; omega
       | cons a b => exact ⟨a, b, rfl⟩
      have hdec : decideP po ns = if po = 80 then (⟨0, tl.foldl max q0⟩ : PVal) else if po = 85 ∧ tl ≠ [] then ⟨2, 0⟩ else ⟨0, q0⟩ := by
       unfold decideP
       rw [if_neg hS, if_neg hN, hnt]
      have htl1 : tl ≠ [] ↔ 1 < l.length := by
       have := uh HNL
       rw [hnt, List.length_cons] at this
       rw [← List.length_pos_iff]
       omega
      by_cases hU : po = 85 ∧ 1 < l.length
      ·obtain ⟨rfl, hl1⟩ := hU
       have HE : Hid (decideP 85 ns = ⟨2, 0⟩) := hide (by rw [hdec, if_neg (by decide), if_pos ⟨rfl, htl1.2 hl1⟩])
       have hl1c : (1 : Int) < l.length := by omega
       clear hdec htl1 hnt hb hbw
       go_wp2
       obtain ⟨⟨d0, d1⟩, _⟩ := box2 (box2_set (x := .int .i64 (2)) (y := .int .i64 (0)) (uh HNR))
       refine bodyPost_ret (v := vv (decideP 85 ns)) (by rw [uh HE]; simp [results, Tryz.results127, go_sem, d0, d1, vv]) rfl ⟨rfl, below_set2 _ _ (uh HBR) (by omega)⟩
      ·have HE : Hid (decideP po ns = ⟨0, if po = 80 then ns.foldl max q0 else q0⟩) := hide (by
        rw [hdec]
        by_cases h80 : po = 80
        ·rw [if_pos h80, if_pos h80, hnt, List.foldl_cons, Int.max_self]
        ·rw [if_neg h80, if_neg h80, if_neg (fun h => hU ⟨h.1, htl1.1 h.2⟩)])
       obtain ⟨g1, g2, q, rfl, rfl, c2, hlr, hlrc, hjlc, c1, hq, hg1, hg2, hq1, hq2⟩ := uh HCELL wr 0 (by omega) hbw
       have hqq : q = q0 := by
        rw [hnt] at hq
        simp at hq
        exact hq.symm
       subst hqq
       have HUF : Hid (po = 85 → ¬ 1 < l.length) := hide (fun h1 h2 => hU ⟨h1, h2⟩)
       have hlr' : ((l[0]'(by omega) : Nat) : Int) < rl.length := by omega
       generalize l[0]'(by omega) = lj at *
       clear hq hdec htl1 hnt hU
       have hl00 : (0 : Int) < l.length := by omega
       have HB3 := hide hb
       clear hb hbw b0 b1 f0 f1
       clear hlt
       by_cases h85 : po = 85
       ·subst h85
        have hl1c : ¬ (1 : Int) < l.length := by have := uh HUF rfl; omega
        have HE2 : Hid (decideP 85 ns = ⟨0, q⟩) := hide (by rw [uh HE, if_neg (by decide)])
        clear HE HUF
        have HE := HE2
        go_wp2_with fail
        go_region
        all_goals
         go_wp2_with fail
         go_loopg [7, 8] l.length (fun gk nv iv wx => ∃ m : Nat, m ≤ l.length ∧ gk = l.length - m ∧ iv = .int .i64 (m : Int) ∧ nv = .int .i64 q ∧ Below w1.heap.size w1 wx)
         case atStart => exact ⟨0, by omega, rfl, rfl, rfl, (uh HB3).drew⟩
         case round =>
          clear c1 c2 e2 e5 hse hsr hg1 hg2 HNR HBR
          obtain ⟨m, hm, hg, rfl, rfl, hb⟩ := hrel
          have B : Aside (gk = l.length - m ∧ Below w1.heap.size w1 wr) := ⟨hg, hb⟩
          clear hg
          have hNr := (hb.block _ (lt_of_block (uh HN1))).trans (uh HN1)
          obtain ⟨e0, e1, e2, e3, e4, e5⟩ := cells6b hNr
          have hse := lt_of_block hNr
          have hRr := (hb.block _ (lt_of_block (uh HR1))).trans (uh HR1)
          obtain ⟨⟨b0, b1⟩, f0, f1⟩ := box2 hRr
          have hsr := lt_of_block hRr
          have HNR := hide hRr
          have hbw := below_after (uh HB1) hb
          have HBR := hide hbw
          clear e0 e1 e3 e4 hNr hRr
          by_cases hlt : m < l.length
          ·obtain ⟨g1', g2', q', hg1e, hg2e, c2, hlr, hlrc, hjlc, c1, hq, hg1, hg2, hq1, hq2⟩ := uh HCELL wr m hlt hbw
           simp only [Option.some.injEq, Addr.mk.injEq, and_true] at hg1e hg2e
           subst hg1e hg2e
           have hjc : (m : Int) < l.length := by omega
           have hlr' : ((l[m] : Nat) : Int) < rl.length := by omega
           generalize l[m] = lj at *
           clear hq hb hbw b0 b1 f0 f1
           go_wp2_with fail
           go_region
           all_goals
            go_wp2_with fail
            go_roundg (l.length - (m + 1))
            case measure => have := B.out.1; omega
            case rel => exact ⟨m + 1, by omega, rfl, by go_num, rfl, by first | exact B.out.2.drew.drew | exact B.out.2.drew | exact B.out.2⟩
          ·have hjc : ¬ (m : Int) < l.length := by omega
           have hme : m = l.length := by omega
           clear hb hbw hme
           go_wp2
           obtain ⟨⟨d0, d1⟩, _⟩ := box2 (box2_set (x := .int .i64 0) (y := .int .i64 q) (uh HNR))
           refine bodyPost_ret (v := vv (decideP 85 ns)) (by rw [uh HE]; simp [results, Tryz.results127, go_sem, d0, d1, vv]) rfl ⟨rfl, below_set2 _ _ (uh HBR) (by omega)⟩
       ·have hb85 : (po == 85) = false := by simpa using h85
        go_wp2_with fail
        go_region
        all_goals
         go_wp2_with fail
         go_loopg [7, 8] l.length (fun gk nv iv wx => ∃ m : Nat, m ≤ l.length ∧ gk = l.length - m ∧ iv = .int .i64 (m : Int) ∧ nv = .int .i64 (if po = 80 then (ns.take m).foldl max q else q) ∧ Below w1.heap.size w1 wx)
         case atStart => exact ⟨0, by omega, rfl, rfl, by simp, (uh HB3).drew⟩
         case round =>
          clear c1 c2 e2 e5 hse hsr hg1 hg2 HNR HBR
          obtain ⟨m, hm, hg, rfl, rfl, hb⟩ := hrel
          have B : Aside (gk = l.length - m ∧ Below w1.heap.size w1 wr) := ⟨hg, hb⟩
          clear hg
          have hNr := (hb.block _ (lt_of_block (uh HN1))).trans (uh HN1)
          obtain ⟨e0, e1, e2, e3, e4, e5⟩ := cells6b hNr
          have hse := lt_of_block hNr
          have hRr := (hb.block _ (lt_of_block (uh HR1))).trans (uh HR1)
          obtain ⟨⟨b0, b1⟩, f0, f1⟩ := box2 hRr
          have hsr := lt_of_block hRr
          have HNR := hide hRr
          have hbw := below_after (uh HB1) hb
          have HBR := hide hbw
          clear e0 e1 e3 e4 hNr hRr
          by_cases hlt : m < l.length
          ·obtain ⟨g1', g2', q', hg1e, hg2e, c2, hlr, hlrc, hjlc, c1, hq, hg1, hg2, hq1, hq2⟩ := uh HCELL wr m hlt hbw
           simp only [Option.some.injEq, Addr.mk.injEq, and_true] at hg1e hg2e
           subst hg1e hg2e
           have HQ := hide (take_fold ns max q hq)
           have hjc : (m : Int) < l.length := by omega
           have hlr' : ((l[m] : Nat) : Int) < rl.length := by omega
           generalize l[m] = lj at *
           clear hq hb hbw b0 b1 f0 f1
           by_cases h80 : po = 80
           ·subst h80
            rw [if_pos rfl]
            generalize (ns.take m).foldl max q = n0 at *
            by_cases hgt : n0 < q'
            ·have hmx : max n0 q' = q' := by omega
             rw [hmx] at HQ
             go_wp2_with fail
             go_region
             all_goals
              go_wp2_with fail
              go_region
              all_goals
               go_wp2_with fail
               go_roundg (l.length - (m + 1))
               case measure => have := B.out.1; omega
               case rel => exact ⟨m + 1, by omega, rfl, by go_num, by rw [if_pos trivial, uh HQ], by first | exact B.out.2.drew.drew | exact B.out.2.drew | exact B.out.2⟩
            ·have hmx : max n0 q' = n0 := by omega
             rw [hmx] at HQ
             go_wp2_with fail
             go_region
             all_goals
              go_wp2_with fail
              go_roundg (l.length - (m + 1))
              case measure => have := B.out.1; omega
              case rel => exact ⟨m + 1, by omega, rfl, by go_num, by rw [if_pos trivial, uh HQ], by first | exact B.out.2.drew.drew | exact B.out.2.drew | exact B.out.2⟩
           ·have b80 : (po == 80) = false := by simpa using h80
            rw [if_neg h80]
            go_wp2_with fail
            go_region
            all_goals
             go_wp2_with fail
             go_roundg (l.length - (m + 1))
             case measure => have := B.out.1; omega
             case rel => exact ⟨m + 1, by omega, rfl, by go_num, by rw [if_neg h80], by first | exact B.out.2.drew.drew | exact B.out.2.drew | exact B.out.2⟩
          ·have hjc : ¬ (m : Int) < l.length := by omega
           have hme : m = l.length := by omega
           rw [hme, ← uh HNL, List.take_length]
           generalize (if po = 80 then ns.foldl max q else q) = nn at *
           clear hb hbw hme
           rw [uh HNL]
           go_wp2
           obtain ⟨⟨d0, d1⟩, _⟩ := box2 (box2_set (x := .int .i64 0) (y := .int .i64 nn) (uh HNR))
           refine bodyPost_ret (v := vv (decideP po ns)) (by rw [uh HE]; simp [results, Tryz.results127, go_sem, d0, d1, vv]) rfl ⟨rfl, below_set2 _ _ (uh HBR) (by omega)⟩
end Go.Proofs.YtdgbmcbkbkbdoaaGreatDoor
