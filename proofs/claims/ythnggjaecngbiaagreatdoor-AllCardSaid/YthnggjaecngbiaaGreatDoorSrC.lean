import Derived.Test.YthnggjaecngbiaaGreatDoorSrA
import Derived.Shelf.Spec.SlicesGrow
namespace Go.Proofs.YthnggjaecngbiaaGreatDoor
open Go.RowKit
theorem owns_addr {w : World} {base : Nat} {e : TypeId} {v : Value} {n : Nat} {xs : List Value} (h : w.ownsRow base e 1 v n xs) (h0 : 0 < n) : ∃ g cap, v = .slice (some ⟨g, 0, none⟩) n cap ∧ base ≤ g := by
 rcases h.2 with ⟨_, h1⟩ | ⟨g, cap, cur, h1, h2, _⟩
 ·omega
 ·exact ⟨g, cap, h1, h2⟩
theorem ints_app (a b : List Int) : ints (a ++ b) = ints a ++ ints b := by simp [ints]
set_option maxRecDepth 100000 in
set_option maxHeartbeats 6400000 in
theorem candidates_any (x : LItem) (col : ByteArray) (w : World) (hx : ItemV w x) (hr8 : x.it.rules.length ≤ 8) (hc3 : x.it.cols.length ≤ 3) (hwd : ∀ r ∈ x.it.rules, r.tests.length = x.it.cols.length ∧ ∀ t ∈ r.tests, WfT t) :
  Calls Tryz.prog 166 #[iv x.it x.cv x.rv, .string col] w fun e w' => ∃ v, e = .returned v ∧ Below w.heap.size w w' ∧ SlAt w' 1 v (candP x.it.cols col x.it.rules).length (ints (candP x.it.cols col x.it.rules)) := by
 obtain ⟨it, cv, rv0, zv⟩ := x
 obtain ⟨co, cc, hcv⟩ := hx.1.form
 obtain ⟨ro, rc, hrv⟩ := hx.2.2.1.form
 simp only at hcv hrv
 subst hcv hrv
 simp only at hwd hr8 hc3 ⊢
 have hz := hx.2.1
 simp only at hz
 have hmap : (zv.zip it.rules).map Prod.snd = it.rules := List.map_snd_zip (by omega)
 have hzl : (zv.zip it.rules).length = it.rules.length := by simp; omega
 have hrs := hx.2.2.1
 simp only [rcells_z] at hrs
 have HT : Hid (∀ y ∈ zv.zip it.rules, SlAt w 4 y.1 y.2.tests.length (tsCells y.2.tests) ∧ y.2.tests.length = it.cols.length ∧ ∀ t ∈ y.2.tests, WfT t) := hide (fun y hy => ⟨hx.2.2.2 y hy, (hwd y.2 (List.of_mem_zip hy).2).1, (hwd y.2 (List.of_mem_zip hy).2).2⟩)
 have HC : Hid (SlAt w 1 (.slice co it.cols.length cc) it.cols.length (it.cols.map Value.string)) := hide hx.1
 simp only [iv, icells]
 obtain ⟨w1, hw1⟩ : ∃ w1, w1 = w.alloc (.cells #[.string it.name, .bool it.isT, .int .i64 (it.marks : Int), .int .u8 it.policy, .slice co it.cols.length cc, .int .i64 (it.drops : Int), .slice ro it.rules.length rc] 119) := ⟨_, rfl⟩
 have HB1 : Hid (Below w.heap.size w w1) := hide (by rw [hw1]; exact (Below.refl _ w).alloc (Nat.le_refl _) _)
 have HN1 : Hid (w1.heap[w.heap.size]? = some (.cells #[.string it.name, .bool it.isT, .int .i64 (it.marks : Int), .int .u8 it.policy, .slice co it.cols.length cc, .int .i64 (it.drops : Int), .slice ro it.rules.length rc] 119)) := hide (by rw [hw1]; exact alloc_last w _)
 have HS1 : Hid (w1.heap.size = w.heap.size + 1) := hide (by rw [hw1]; simp)
 have HV := hide hrs
 have HRAW : Hid (∀ j, j ≤ it.rules.length → (rawTo it.cols col it.rules j).length ≤ 49) := hide (fun j hj => by
  have := rawTo_len (cols := it.cols) (col := col) (n := 3) (fun r hr => by rw [(hwd r hr).1]; exact hc3) j hj
  omega)
 have HRAW43 : Hid (∀ j, j < it.rules.length → (rawTo it.cols col it.rules j).length ≤ 43) := hide (fun j hj => by
  have := rawTo_len (cols := it.cols) (col := col) (n := 3) (fun r hr => by rw [(hwd r hr).1]; exact hc3) j (by omega)
  omega)
 clear hx hrs hz hwd
 obtain ⟨zs, hzs⟩ : ∃ zs, zv.zip it.rules = zs := ⟨_, rfl⟩
 rw [hzs] at HT HV hmap hzl
 clear hzs
 rw [← hmap] at HRAW HRAW43 hr8 ⊢
 rw [← hzl] at HV HN1 hw1
 simp only [List.length_map] at HRAW HRAW43 hr8 ⊢
 clear hmap hzl
 generalize it.cols = cs at *
 generalize it.name = nm at *
 generalize it.isT = bT at *
 generalize (it.marks : Int) = mk at *
 generalize it.policy = po at *
 generalize (it.drops : Int) = dr at *
 obtain ⟨i0, hi, hz0, hz1, hz2⟩ := info_parts Tryz.info_int
 obtain ⟨w0, hw0⟩ : ∃ w0, w0 = w1.alloc (.cells #[.int .i64 (-1000000)] 3) := ⟨_, rfl⟩
 have HB0 : Hid (Below w1.heap.size w1 w0) := hide (by rw [hw0]; exact (Below.refl _ w1).alloc (Nat.le_refl _) _)
 have HO0 : Hid (w0.ownsRow w1.heap.size 3 1 (.slice (some ⟨w1.heap.size, 0, none⟩) 1 1) 1 (ints [-1000000])) := hide (by
  have h1 : w0.heap[w1.heap.size]? = some (.cells #[.int .i64 (-1000000)] 3) := by rw [hw0]; exact alloc_last w1 _
  exact owns_of_arr (l := ints [-1000000]) h1 (Nat.le_refl _) rfl (by decide) rfl)
 go_enter Tryz.func166, Tryz.ntmps166
 go_wp2_with fail
 rw [← hw1, ← uh HS1, ← hw0]
 clear hw1 hw0
 go_loopg [5, 14] zs.length (fun g pv i wr => ∃ j : Nat, j ≤ zs.length ∧ g = zs.length - j ∧ i = .int .i64 (j : Int) ∧ Below w1.heap.size w1 wr ∧ wr.ownsRow w1.heap.size 3 1 pv (rawTo cs col (zs.map Prod.snd) j).length (ints (rawTo cs col (zs.map Prod.snd) j)))
 case atStart => exact ⟨0, by omega, rfl, rfl, uh HB0, uh HO0⟩
 case round =>
  obtain ⟨j, hj, hg, rfl, hb, hown⟩ := hrel
  have A : Aside (gk = zs.length - j ∧ Below w1.heap.size w1 wr ∧ wr.ownsRow w1.heap.size 3 1 u5 (rawTo cs col (zs.map Prod.snd) j).length (ints (rawTo cs col (zs.map Prod.snd) j))) := ⟨hg, hb, hown⟩
  clear hg hown
  by_cases hlt : j < zs.length
  ·have hbw := below_after (uh HB1) hb
   obtain ⟨g1, rfl, j0, j1, hg1⟩ := ((uh HV).below hbw).at2 hlt
   have hf0 := flat_at zcells 2 (fun _ => rfl) zs j 0 hlt (by omega)
   have hf1 := flat_at zcells 2 (fun _ => rfl) zs j 1 hlt (by omega)
   rw [Nat.add_zero] at hf0
   rw [hf0] at j0
   rw [hf1] at j1
   simp only [zcells, List.getElem?_cons_zero, List.getElem?_cons_succ] at j0 j1
   have hps : rawTo cs col (zs.map Prod.snd) (j + 1) = rawTo cs col (zs.map Prod.snd) j ++ ruleTurnsTo cs col zs[j].2.tests zs[j].2.tests.length := by
    have := rawTo_succ cs col (zs.map Prod.snd) (j := j) (by simpa using hlt)
    simpa using this
   have hr49 := uh HRAW (j + 1) (by omega)
   obtain ⟨hy1, hy2, hy3⟩ := uh HT zs[j] (List.getElem_mem hlt)
   have hjc : (j : Int) < zs.length := by omega
   have HBW := hide hbw
   clear hf0 hf1 hb hbw
   generalize zs[j] = y at *
   obtain ⟨yv, yts, ynum⟩ := y
   simp only at j0 j1 hy1 hy2 hy3 hps
   obtain ⟨yo, yc, hyv⟩ := hy1.form
   subst hyv
   have HY := hide hy1
   have HYL := hide hy2
   have HYW := hide hy3
   rw [hps] at hr49
   rw [List.length_append] at hr49
   have HPS := hide hps
   have HRL : Hid (∀ m, m ≤ yts.length → (ruleTurnsTo cs col yts m).length ≤ 2 * m) := hide (fun m _ => ruleTurnsTo_len cs col yts m)
   clear hy1 hy2 hy3 hps
   obtain ⟨r0, hr0⟩ : ∃ r0, rawTo cs col (zs.map Prod.snd) j = r0 := ⟨_, rfl⟩
   have hr43 := uh HRAW43 j hlt
   have HB2 : Hid (Below wr.heap.size wr (wr.alloc (.cells #[.slice yo yts.length yc, .int .i64 ynum] 160))) := hide ((Below.refl _ wr).alloc (Nat.le_refl _) _)
   go_wp2_with fail
   obtain ⟨w2, hw2⟩ : ∃ w2, w2 = wr.alloc (.cells #[.slice yo yts.length yc, .int .i64 ynum] 160) := ⟨_, rfl⟩
   rw [← hw2] at HB2 ⊢
   clear hw2 j0 j1
   have HOW2 := hide (owns_below A.out.2.2 (uh HB2))
   have HB12 := hide (below_after A.out.2.1 (uh HB2))
   rw [hr0] at HOW2 HPS hr49 hr43
   have HR0 := hide hr43
   clear hr43
   clear hr0
   go_loopg [5, 21] yts.length (fun g pv i wx => ∃ m : Nat, m ≤ yts.length ∧ g = yts.length - m ∧ i = .int .i64 (m : Int) ∧ Below w1.heap.size w1 wx ∧ wx.ownsRow w1.heap.size 3 1 pv (r0 ++ ruleTurnsTo cs col yts m).length (ints (r0 ++ ruleTurnsTo cs col yts m)))
   case atStart => exact ⟨0, by omega, rfl, rfl, uh HB12, by simpa [ruleTurnsTo] using uh HOW2⟩
   case round =>
    obtain ⟨m, hm, hg, rfl, hb, hown⟩ := hrel
    have B : Aside (gk = yts.length - m ∧ Below w1.heap.size w1 wr ∧ wr.ownsRow w1.heap.size 3 1 u5 (r0 ++ ruleTurnsTo cs col yts m).length (ints (r0 ++ ruleTurnsTo cs col yts m))) := ⟨hg, hb, hown⟩
    clear hg hown
    by_cases hmt : m < yts.length
    ·have hmc : m < cs.length := by have := uh HYL; omega
     have hbw := below_after (uh HB1) hb
     rcases (uh HY).below hbw with ⟨h0, _⟩ | ⟨g2, cap2, hv2, hc2, hm2, hgl2, hx2⟩
     ·omega
     simp only [Value.slice.injEq] at hv2
     obtain ⟨rfl, _, rfl⟩ := hv2
     have key : ∀ i, i < 4 → wr.cell? ⟨g2, m * 4 + i, none⟩ = (tcells yts[m])[i]? := fun i hi => by
      rw [hx2 _ (by omega)]
      exact flat_at tcells 4 (fun _ => rfl) yts m i hmt hi
     have k0 := key 0 (by omega)
     have k1 := key 1 (by omega)
     have k2 := key 2 (by omega)
     have k3 := key 3 (by omega)
     simp only [tcells, List.getElem?_cons_zero, List.getElem?_cons_succ, Nat.add_zero] at k0 k1 k2 k3
     obtain ⟨gc, rfl, q0, hgc⟩ := ((uh HC).below hbw).at1 hmc
     rw [show (cs.map Value.string)[m]? = some (.string cs[m]) by simp [hmc]] at q0
     have hNr := (hb.block _ (lt_of_block (uh HN1))).trans (uh HN1)
     obtain ⟨⟨-, -, -, -, c4, -, -⟩, -⟩ := cells7 hNr
     have hs1 := lt_of_block hNr
     have hst := ruleTurnsTo_succ cs col yts m
     rw [getD_at _ _ hmc, getD_at _ _ hmt] at hst
     have hwt := uh HYW yts[m] (List.getElem_mem hmt)
     have hmy : (m : Int) < yts.length := by omega
     have hmd : (m : Int) < cs.length := by omega
     have hrl := uh HRL m (by omega)
     have hrl2 := uh HRL (m + 1) (by omega)
     have hyl3 : yts.length ≤ 3 := by have := uh HYL; omega
     generalize yts[m] = t at *
     generalize cs[m] = cm at *
     obtain ⟨t0, t1, t2, t3⟩ := t
     simp only at k0 k1 k2 k3
     have hk := hwt.kind
     have hlo := hwt.low
     have hhi := hwt.high
     simp only at hk hlo hhi
     have HS := hide hst
     obtain ⟨raw, hraw⟩ : ∃ raw, r0 ++ ruleTurnsTo cs col yts m = raw := ⟨_, rfl⟩
     have hrw : raw.length ≤ 49 := by
      rw [← hraw, List.length_append]
      have := uh HR0
      omega
     have HSR : Hid (r0 ++ ruleTurnsTo cs col yts (m + 1) = raw ++ (if sameName cm col then turnsP ⟨t0, t1, t2, t3⟩ else [])) := hide (by rw [hst, ← List.append_assoc, hraw])
     have HOW := hide B.out.2.2
     rw [hraw] at HOW
     have HBR := hide hb
     clear key hx2 hc2 hm2 hst hwt hraw hbw hNr hrl hrl2 hb
     have k0' := k0
     have HBA : Hid (Below w1.heap.size w1 (wr.alloc (.cells #[.int .i64 (t0 : Int), .int .i64 t1, .int .i64 t2, .int .i64 t3] 193))) := hide ((uh HBR).alloc (uh HBR).size _)
     have HOWA : Hid ((wr.alloc (.cells #[.int .i64 (t0 : Int), .int .i64 t1, .int .i64 t2, .int .i64 t3] 193)).ownsRow w1.heap.size 3 1 u5 raw.length (ints raw)) := hide ((uh HOW).alloc _)
     clear k0'
     cases hp : sameName cm col with
     | false =>
      have hp2 : (cm.toList == col.toList) = false := hp
      rw [hp, if_neg (by simp), List.append_nil] at HSR
      clear hp
      go_wp2_with fail
      go_roundg (yts.length - (m + 1))
      case measure => have := B.out.1; omega
      case rel => exact ⟨m + 1, by omega, rfl, by go_num, uh HBA, by rw [uh HSR]; exact uh HOWA⟩
     | true =>
      have hp2 : (cm.toList == col.toList) = true := hp
      rw [hp, if_pos rfl] at HSR
      clear hp
      by_cases hk2 : t1 ≤ 2
      ·rw [turnsP_none hk2, List.append_nil] at HSR
       obtain ⟨uo, uc, hu5⟩ := (SlAt.of_owns (uh HOW)).form
       subst hu5
       have HCAP := hide (owns_cap (uh HOW))
       go_wp2_with fail
       refine (turns_none t0 t1 t2 t3 _ ⟨hk.1, hk2⟩).mono ?_
       rintro e w3 ⟨rfl, hb3⟩
       have HB3 := hide (below_after (uh HBA) hb3)
       have HOW3 := hide (owns_below (uh HOWA) hb3)
       clear hb3
       go_wp2_with (at_builtin; refine wpList_append_zero (by rfl) _ _ _ (by rfl) 3 i0 Tryz.underlying25 hi uo raw.length uc (uh HCAP) none 0 0 rfl (by rfl) (by rfl) ?_)
       go_roundg (yts.length - (m + 1))
       case measure => have := B.out.1; omega
       case rel => exact ⟨m + 1, by omega, rfl, by go_num, uh HB3, by rw [uh HSR]; exact uh HOW3⟩
      ·obtain ⟨TL, hTL⟩ : ∃ TL, turnsP ⟨t0, t1, t2, t3⟩ = TL := ⟨_, rfl⟩
       have hTl := turnsP_len ⟨t0, t1, t2, t3⟩
       have HTP : Hid (0 < TL.length) := hide (by
        rw [← hTL]
        unfold turnsP
        rcases (by omega : t1 = 3 ∨ t1 = 4 ∨ t1 = 5 ∨ t1 = 6) with h | h | h | h <;> simp [h])
       have HTS := hide (turns_some t0 t1 t2 t3)
       rw [hTL] at HSR HTS hTl
       clear hTL
       go_wp2_with fail
       refine (uh HTS _ ⟨by omega, hk.2⟩ hlo hhi).mono ?_
       rintro e w3 ⟨rfl, hb3, harr⟩
       obtain ⟨gt, hgt⟩ : ∃ gt, (wr.alloc (.cells #[.int .i64 (t0 : Int), .int .i64 t1, .int .i64 t2, .int .i64 t3] 193)).heap.size + 1 = gt := ⟨_, rfl⟩
       rw [hgt] at harr ⊢
       clear hgt
       have HB3 := hide (below_after (uh HBA) hb3)
       have HOW3 := hide (owns_below (uh HOWA) hb3)
       have HNT : Hid (∀ q u, (ints TL)[q]? = some u → w3.cell? ((⟨gt, 0, none⟩ : Addr).add q) = some u) := hide (fun q u hu => by
        rw [Addr.add_lit, Nat.zero_add, (arr_cell harr q).1, hu])
       have HLT : Hid ((ints TL).length = TL.length * 1) := hide (by simp [ints])
       have HOT : Hid (∀ u ∈ ints TL, u.oneCell' = true) := hide (fun u hu => by obtain ⟨x, _, rfl⟩ := List.mem_map.1 hu; rfl)
       have HM1 : Hid (raw.length + TL.length ≤ maxLen) := hide (Nat.le_trans (show raw.length + TL.length ≤ 101 by omega) (by decide))
       have HM2 : Hid ((raw.length + TL.length) * 8 ≤ 140737488355328) := hide (Nat.le_trans (Nat.mul_le_mul_right 8 (show raw.length + TL.length ≤ 101 by omega)) (by decide))
       clear hb3 harr
       go_wp2_with (at_builtin; refine wpList_append_lies _ (by rfl) _ _ _ (by rfl) w1.heap.size 3 i0 _ 1 8 Tryz.underlying25 hi hz0 hz1 hz2 rfl (by decide) u5 raw.length (ints raw) (by rfl) (uh HOW3) ⟨gt, 0, none⟩ _ _ (ints TL) (by rfl) (uh HLT) (uh HNT) (uh HOT) (uh HTP) (uh HM1) (uh HM2) (uh HB3).size w3.heap.size rfl ?_; intro gg cap w7 hown7 hgrow7 hat7 hlt7; have AB := hide (And.intro (below_grown (uh HB3) hgrow7 (fun q hq => ((uh HOW3).lt q hq).1)) hown7); clear hown7 hgrow7 hat7 hlt7)
       go_roundg (yts.length - (m + 1))
       case measure => have := B.out.1; omega
       case rel => exact ⟨m + 1, by omega, rfl, by go_num, (uh AB).1, by rw [uh HSR, List.length_append, ints_app]; exact (uh AB).2⟩
    ·have hme : m = yts.length := by omega
     have hmc : ¬ (m : Int) < yts.length := by omega
     have HFIN : Hid (wr.ownsRow w1.heap.size 3 1 u5 (rawTo cs col (zs.map Prod.snd) (j + 1)).length (ints (rawTo cs col (zs.map Prod.snd) (j + 1)))) := hide (by
      rw [uh HPS, ← hme]
      exact B.out.2.2)
     clear hme hb
     go_wp2_with fail
     go_roundg (zs.length - (j + 1))
     case measure => have := A.out.1; omega
     case rel => exact ⟨j + 1, by omega, rfl, by go_num, B.out.2.1, uh HFIN⟩
  ·have hje : j = zs.length := by omega
   have hjc : ¬ (j : Int) < zs.length := by omega
   have HOW : Hid (wr.ownsRow w1.heap.size 3 1 u5 (rawP cs col (zs.map Prod.snd)).length (ints (rawP cs col (zs.map Prod.snd)))) := hide (by
    have := A.out.2.2
    rw [hje] at this
    unfold rawP
    simpa using this)
   have hlr : 0 < (rawP cs col (zs.map Prod.snd)).length := by unfold rawP rawTo; simp
   have hl49 : (rawP cs col (zs.map Prod.snd)).length ≤ 49 := by
    have := uh HRAW zs.length (Nat.le_refl _)
    unfold rawP
    simpa using this
   have HBR := hide (below_after (uh HB1) hb)
   have HCP : Hid (candP cs col (zs.map Prod.snd) = Lib.compact (((rawP cs col (zs.map Prod.snd)).filter fun n => !decide (1000000 < n)).mergeSort fun x y => decide (x ≤ y))) := hide rfl
   obtain ⟨gq, cq, rfl, hgq⟩ := owns_addr (uh HOW) hlr
   clear hje hb A hlr
   generalize rawP cs col (zs.map Prod.snd) = raw at *
   obtain ⟨ke, hke⟩ : ∃ ke, (raw.filter fun n => !decide (1000000 < n)) = ke := ⟨_, rfl⟩
   have hkl : ke.length ≤ 49 := by
    rw [← hke]
    exact Nat.le_trans (List.length_filter_le _ _) hl49
   have HDEL := hide (fun w' h => delete_any w1.heap.size gq cq raw w' h)
   rw [hke] at HDEL HCP
   clear hke
   obtain ⟨so, hso⟩ : ∃ so, (ke.mergeSort fun x y => decide (x ≤ y)) = so := ⟨_, rfl⟩
   have HSRT := hide (fun w' h => sort_any w1.heap.size gq cq ke w' (by omega) h)
   have HSL : Hid (ke.length = so.length) := hide (by rw [← hso]; simp)
   rw [hso] at HSRT HCP
   clear hso
   go_wp2_with fail
   refine (uh HDEL _ (uh HOW)).mono ?_
   rintro e w2 ⟨rfl, ho2, hb2⟩
   have HO2 := hide ho2
   have HB2 := hide hb2
   clear ho2 hb2
   go_wp2_with fail
   refine (uh HSRT _ (uh HO2)).mono ?_
   rintro e w3 ⟨rfl, ho3, hb3⟩
   have HO3 := hide ho3
   have HB3 := hide ((uh HB2).trans hb3)
   clear ho3 hb3
   rw [uh HSL]
   go_wp2_with fail
   refine (compactI_any w1.heap.size gq cq so _ (uh HO3)).mono ?_
   rintro e w4 ⟨rfl, ho4, hb4⟩
   have HO4 := hide ho4
   have HB4 := hide ((uh HB3).trans hb4)
   clear ho4 hb4
   go_wp2_with fail
   go_ret
   refine ⟨_, rfl, (uh HBR).trans ((uh HB4).mono (uh HB1).size), ?_⟩
   rw [uh HCP]
   exact SlAt.of_owns (uh HO4)
end Go.Proofs.YthnggjaecngbiaaGreatDoor
namespace Go.Proofs.YthnggjaecngbiaaGreatDoor
open Go.RowKit
def Tryz.lgrow_ren : Go.Shelf.Ren := ⟨fun | 4 => 167 | n => n, fun | 22 => 25 | 25 => 3 | n => n, fun | n => n⟩
theorem Tryz.lgrow : Go.Proofs.Lays8.n4 Tryz.prog Tryz.lgrow_ren := {
 mixed := by kernel_rfl
 f4 := ⟨Tryz.f167.name, by decide, Tryz.func167.trans (congrArg some (by kernel_rfl))⟩
 t0 := Tryz.underlying0
 a0 := Tryz.isAgg0
 z0 := Tryz.sizeOf0
 v0 := Tryz.zeroValue0
 t3 := Tryz.underlying3
 a3 := Tryz.isAgg3
 z3 := Tryz.sizeOf3
 v3 := Tryz.zeroValue3
 t4 := Tryz.underlying4
 a4 := Tryz.isAgg4
 z4 := Tryz.sizeOf4
 v4 := Tryz.zeroValue4
 t9 := Tryz.underlying9
 a9 := Tryz.isAgg9
 z9 := Tryz.sizeOf9
 v9 := Tryz.zeroValue9
 t20 := Tryz.underlying20
 a20 := Tryz.isAgg20
 z20 := Tryz.sizeOf20
 v20 := Tryz.zeroValue20
 t22 := Tryz.underlying25
 a22 := Tryz.isAgg25
 z22 := Tryz.sizeOf25
 v22 := Tryz.zeroValue25 }
theorem growI_any (n : Nat) (w : World) (h0 : 0 < n) (hn : n ≤ 1000) :
  Calls Tryz.prog 167 #[.slice none 0 0, .int .i64 (n : Int)] w fun e w' => ∃ v, e = .returned v ∧ Below w.heap.size w w' ∧ w'.ownsRow w.heap.size 3 1 v 0 [] := by
 obtain ⟨i0, hi, hz0, hz1, hz2⟩ := info_parts Tryz.info_int
 have hm : n ≤ maxLen := Nat.le_trans hn (by decide)
 refine (Any8.slices_Grow_grow Tryz.lgrow i0 _ hi hz0 (by rw [hz1]; decide) none 0 0 n [] w (Nat.le_refl _) (by omega) (by rw [hz2]; omega) (by omega) (by simp) (fun _ => rfl) (fun a h => by cases h)).mono ?_
 rintro e w' ⟨rfl, rfl⟩
 have h1 := grownCap_ge w (0 + n) 0 3
 have h2 := grownCap_le_maxLen w (0 + n) 0 3 (by omega)
 refine ⟨_, rfl, (Below.refl _ w).drew.alloc (Nat.le_refl _) _, by simp, Or.inr ⟨w.heap.size, _, _, rfl, Nat.le_refl _, alloc_last w.drew _, by omega, h2, ?_, by simp⟩⟩
 show (#[] ++ Builtin.zeroCells (Value.int IntKind.i64 0).cells (0 + n - 0) ++ Builtin.zeroCells (Value.int IntKind.i64 0).cells (grownCap w (0 + n) 0 3 - (0 + n))).size = grownCap w (0 + n) 0 3 * 1
 rw [Array.size_append, Array.size_append, size_zeroCells, size_zeroCells]
 show 0 + (0 + n - 0) * 1 + (grownCap w (0 + n) 0 3 - (0 + n)) * 1 = _
 omega
def szTo (l : Nat) : Nat → Nat
 | 0 => 0
 | 1 => l
 | _ => l + 1
def catTo (a : List Int) (n : Int) : Nat → List Int
 | 0 => []
 | 1 => a
 | _ => a ++ [n]
set_option maxRecDepth 100000 in
set_option maxHeartbeats 3200000 in
theorem concat_any (g b : Nat) (ao : Option Addr) (a : List Int) (ca : Nat) (n : Int) (w : World) (h0 : w.cell? ⟨g, 0, none⟩ = some (.slice ao a.length ca)) (h1 : w.cell? ⟨g, 1, none⟩ = some (.slice (some ⟨b, 0, none⟩) 1 1)) (hg : g < w.heap.size) (ha : SlAt w 1 (.slice ao a.length ca) a.length (ints a)) (hb : w.cell? ⟨b, 0, none⟩ = some (.int .i64 n)) (hbl : b < w.heap.size) (hl : a.length ≤ 100) :
  Calls Tryz.prog 136 #[.slice (some ⟨g, 0, none⟩) 2 2] w fun e w' => ∃ v, e = .returned v ∧ Below w.heap.size w w' ∧ w'.ownsRow w.heap.size 3 1 v (a.length + 1) (ints (a ++ [n])) := by
 have HA := hide ha
 have HB := hide hb
 have H0 := hide h0
 have H1 := hide h1
 have HC : Hid (∀ w', Below w.heap.size w w' → w'.cell? ⟨g, 0, none⟩ = some (.slice ao a.length ca) ∧ w'.cell? ⟨g, 1, none⟩ = some (.slice (some ⟨b, 0, none⟩) 1 1)) := hide (fun w' hb' => ⟨(hb'.cell (p := ⟨g, 0, none⟩) hg).trans h0, (hb'.cell (p := ⟨g, 1, none⟩) hg).trans h1⟩)
 obtain ⟨i0, hi, hz0, hz1, hz2⟩ := info_parts Tryz.info_int
 clear ha hb h0 h1
 go_enter Tryz.func136, Tryz.ntmps136
 go_wp2_with fail
 go_loopg [3, 11] 2 (fun gk sz i wr => ∃ j : Nat, j ≤ 2 ∧ gk = 2 - j ∧ i = .int .i64 (j : Int) ∧ sz = .int .i64 ((szTo a.length j : Nat) : Int) ∧ Below w.heap.size w wr)
 case atStart => exact ⟨0, by omega, rfl, rfl, rfl, Below.refl _ _⟩
 case round =>
  obtain ⟨j, hj, hk, rfl, rfl, hbr⟩ := hrel
  have A : Aside (gk = 2 - j ∧ Below w.heap.size w wr) := ⟨hk, hbr⟩
  obtain ⟨c0, c1⟩ := uh HC wr hbr
  have hgr : g < wr.heap.size := Nat.lt_of_lt_of_le hg hbr.size
  have HBR := hide hbr
  clear hk hbr
  rcases (by omega : j = 0 ∨ j = 1 ∨ j = 2) with rfl | rfl | rfl
  ·simp only [szTo]
   go_wp2_with fail
   go_roundg 1
   case measure => have := A.out.1; omega
   case rel => exact ⟨1, by omega, rfl, by go_num, by simp [szTo], uh HBR⟩
  ·simp only [szTo]
   go_wp2_with fail
   go_roundg 0
   case measure => have := A.out.1; omega
   case rel => exact ⟨2, by omega, rfl, by go_num, by simp [szTo], uh HBR⟩
  ·simp only [szTo]
   clear c0 c1
   go_wp2_with fail
   refine (growI_any (a.length + 1) _ (by omega) (by omega)).mono ?_
   rintro e w2 ⟨nv, rfl, hb2, ho2⟩
   have HB2 := hide (below_after (uh HBR) hb2)
   have HO2 := hide (owns_base ho2 (base' := w.heap.size) (uh HBR).size)
   clear hb2 ho2 A
   go_wp2_with fail
   go_loopg [6, 27] 2 (fun gk nv i wr => ∃ j : Nat, j ≤ 2 ∧ gk = 2 - j ∧ i = .int .i64 (j : Int) ∧ Below w.heap.size w wr ∧ wr.ownsRow w.heap.size 3 1 nv (szTo a.length j) (ints (catTo a n j)))
   case atStart => exact ⟨0, by omega, rfl, rfl, uh HB2, uh HO2⟩
   case round =>
    obtain ⟨j, hj, hk, rfl, hbr, how⟩ := hrel
    have A : Aside (gk = 2 - j ∧ True) := ⟨hk, trivial⟩
    obtain ⟨c0, c1⟩ := uh HC wr hbr
    have hgr : g < wr.heap.size := Nat.lt_of_lt_of_le hg hbr.size
    have HBR := hide hbr
    have HOW := hide how
    clear hk hbr how
    rcases (by omega : j = 0 ∨ j = 1 ∨ j = 2) with rfl | rfl | rfl
    ·simp only [szTo, catTo] at HOW
     have HA' := hide ((uh HA).below (uh HBR))
     by_cases hz : a.length = 0
     ·have HZ := hide hz
      have han : a = [] := List.eq_nil_of_length_eq_zero hz
      have HRW : Hid (wr.ownsRow w.heap.size 3 1 u6 (szTo a.length 1) (ints (catTo a n 1))) := hide (by rw [show szTo a.length 1 = 0 from hz, show catTo a n 1 = [] from han]; exact uh HOW)
      clear hz han
      obtain ⟨uo, uc, hu6⟩ := (SlAt.of_owns (uh HOW)).form
      subst hu6
      have HCAP := hide (owns_cap (uh HOW))
      go_wp2_with (at_builtin; refine wpList_append_zero (by rfl) _ _ _ (by rfl) 3 i0 Tryz.underlying25 hi uo 0 uc (uh HCAP) ao a.length ca (uh HZ) (by rfl) (by rfl) ?_)
      go_roundg 1
      case measure => have := A.out.1; omega
      case rel => exact ⟨1, by omega, rfl, by go_num, uh HBR, uh HRW⟩
     ·obtain ⟨ga, rfl, -, -⟩ := (uh HA').at1 (show 0 < a.length by omega)
      have HNA : Hid (∀ q u, (ints a)[q]? = some u → wr.cell? ((⟨ga, 0, none⟩ : Addr).add q) = some u) := hide (fun q u hu => by
       rw [Addr.add_lit, Nat.zero_add]
       have hql : q < a.length := by have := (List.getElem?_eq_some_iff.1 hu).1; simpa [ints] using this
       obtain ⟨g', hg', k1, _⟩ := (uh HA').at1 hql
       simp only [Option.some.injEq, Addr.mk.injEq, and_true] at hg'
       rw [← hg'] at k1
       rw [k1, hu])
      have HLA : Hid ((ints a).length = a.length * 1) := hide (by simp [ints])
      have HOA : Hid (∀ u ∈ ints a, u.oneCell' = true) := hide (fun u hu => by obtain ⟨x, _, rfl⟩ := List.mem_map.1 hu; rfl)
      have HPA : Hid (0 < a.length) := hide (by omega)
      have HM1 : Hid (0 + a.length ≤ maxLen) := hide (Nat.le_trans (show 0 + a.length ≤ 101 by omega) (by decide))
      have HM2 : Hid ((0 + a.length) * 8 ≤ 140737488355328) := hide (Nat.le_trans (Nat.mul_le_mul_right 8 (show 0 + a.length ≤ 101 by omega)) (by decide))
      clear hz
      go_wp2_with (at_builtin; refine wpList_append_lies _ (by rfl) _ _ _ (by rfl) w.heap.size 3 i0 _ 1 8 Tryz.underlying25 hi hz0 hz1 hz2 rfl (by decide) u6 0 ([] : List Value) (by rfl) (uh HOW) ⟨ga, 0, none⟩ a.length ca (ints a) (by rfl) (uh HLA) (uh HNA) (uh HOA) (uh HPA) (uh HM1) (uh HM2) (uh HBR).size wr.heap.size rfl ?_; intro gg cap w7 hown7 hgrow7 hat7 hlt7; have AB := hide (And.intro (below_grown (uh HBR) hgrow7 (fun q hq => ((uh HOW).lt q hq).1)) hown7); clear hown7 hgrow7 hat7 hlt7)
      go_roundg 1
      case measure => have := A.out.1; omega
      case rel => exact ⟨1, by omega, rfl, by go_num, (uh AB).1, by have := (uh AB).2; rw [Nat.zero_add] at this; exact this⟩
    ·simp only [szTo, catTo] at HOW
     have HNB : Hid (∀ q u, [Value.int .i64 n][q]? = some u → wr.cell? ((⟨b, 0, none⟩ : Addr).add q) = some u) := hide (fun q u hu => by
      rw [Addr.add_lit, Nat.zero_add]
      cases q with
      | zero => rw [← hu]; exact ((uh HBR).cell (p := ⟨b, 0, none⟩) hbl).trans (uh HB)
      | succ q => simp at hu)
     have HM1 : Hid (a.length + 1 ≤ maxLen) := hide (Nat.le_trans (show a.length + 1 ≤ 101 by omega) (by decide))
     have HM2 : Hid ((a.length + 1) * 8 ≤ 140737488355328) := hide (Nat.le_trans (Nat.mul_le_mul_right 8 (show a.length + 1 ≤ 101 by omega)) (by decide))
     go_wp2_with (at_builtin; refine wpList_append_lies _ (by rfl) _ _ _ (by rfl) w.heap.size 3 i0 _ 1 8 Tryz.underlying25 hi hz0 hz1 hz2 rfl (by decide) u6 a.length (ints a) (by rfl) (uh HOW) ⟨b, 0, none⟩ 1 1 [.int .i64 n] (by rfl) (by rfl) (uh HNB) (by simp [Value.oneCell']) (by decide) (uh HM1) (uh HM2) (uh HBR).size wr.heap.size rfl ?_; intro gg cap w7 hown7 hgrow7 hat7 hlt7; have AB := hide (And.intro (below_grown (uh HBR) hgrow7 (fun q hq => ((uh HOW).lt q hq).1)) hown7); clear hown7 hgrow7 hat7 hlt7)
     go_roundg 0
     case measure => have := A.out.1; omega
     case rel => exact ⟨2, by omega, rfl, by go_num, (uh AB).1, by have := (uh AB).2; simpa [szTo, catTo, ints] using this⟩
    ·simp only [szTo, catTo] at HOW
     go_wp2_with fail
     go_ret
     exact ⟨_, rfl, uh HBR, uh HOW⟩
set_option maxRecDepth 100000 in
set_option maxHeartbeats 3200000 in
theorem choices_any (x : LItem) (v : List Int) (fv : Value) (w : World) (hx : ItemV w x) (hr8 : x.it.rules.length ≤ 8) (hc3 : x.it.cols.length ≤ 3) (hwd : ∀ r ∈ x.it.rules, r.tests.length = x.it.cols.length ∧ ∀ t ∈ r.tests, WfT t) (hfv : SlAt w 1 fv v.length (ints v)) (hvl : v.length < x.it.cols.length) :
  Calls Tryz.prog 135 #[iv x.it x.cv x.rv, fv] w fun e w' => ∃ cv, e = .returned cv ∧ Below w.heap.size w w' ∧ SlAt w' 1 cv (choiceP x.it.cols x.it.rules v).length (ints (choiceP x.it.cols x.it.rules v)) := by
 obtain ⟨it, cv, rv0, zv⟩ := x
 obtain ⟨co, cc, hcv⟩ := hx.1.form
 obtain ⟨ro, rc, hrv⟩ := hx.2.2.1.form
 obtain ⟨fo, fc, rfl⟩ := hfv.form
 simp only at hcv hrv
 subst hcv hrv
 simp only at hwd hr8 hc3 hvl ⊢
 have HX := hide hx
 have HF := hide hfv
 have HCAND : Hid (∀ w', Below w.heap.size w w' → Calls Tryz.prog 166 #[.agg #[.string it.name, .bool it.isT, .int .i64 (it.marks : Int), .int .u8 it.policy, .slice co it.cols.length cc, .int .i64 (it.drops : Int), .slice ro it.rules.length rc], .string (it.cols.getD v.length noName)] w' fun e w'' => ∃ v', e = .returned v' ∧ Below w'.heap.size w' w'' ∧ SlAt w'' 1 v' (candP it.cols (it.cols.getD v.length noName) it.rules).length (ints (candP it.cols (it.cols.getD v.length noName) it.rules))) := hide (fun w' hb' => by
  have := candidates_any ⟨it, .slice co it.cols.length cc, .slice ro it.rules.length rc, zv⟩ (it.cols.getD v.length noName) w' (hx.below hb') hr8 hc3 hwd
  simpa only [iv, icells] using this)
 simp only [iv, icells]
 obtain ⟨gc, rfl, -, hgc⟩ := hx.1.at1 hvl
 have hcap : it.cols.length ≤ cc := by
  rcases hx.1 with ⟨h0, _⟩ | ⟨g, c, he, h1, _⟩
  ·simp only at h0; omega
  ·simp only [Value.slice.injEq, true_and] at he
   simp only at h1
   omega
 obtain ⟨w1, hw1⟩ : ∃ w1, w1 = w.alloc (.cells #[.string it.name, .bool it.isT, .int .i64 (it.marks : Int), .int .u8 it.policy, .slice (some ⟨gc, 0, none⟩) it.cols.length cc, .int .i64 (it.drops : Int), .slice ro it.rules.length rc] 119) := ⟨_, rfl⟩
 have hb1 : Below w.heap.size w w1 := by rw [hw1]; exact (Below.refl _ w).alloc (Nat.le_refl _) _
 have hN1 : w1.heap[w.heap.size]? = some (.cells #[.string it.name, .bool it.isT, .int .i64 (it.marks : Int), .int .u8 it.policy, .slice (some ⟨gc, 0, none⟩) it.cols.length cc, .int .i64 (it.drops : Int), .slice ro it.rules.length rc] 119) := by rw [hw1]; exact alloc_last w _
 have hcs : ∀ j, j < it.cols.length → w1.cell? ⟨gc, 0 + j, none⟩ = some (.string (it.cols.getD j ByteArray.empty)) := fun j hj => by
  obtain ⟨g', hg', k1, _⟩ := (hx.1.below hb1).at1 hj
  simp only [Option.some.injEq, Addr.mk.injEq, and_true] at hg'
  subst hg'
  rw [Nat.zero_add, k1, getD_at _ _ hj]
  simp [hj]
 have k0 : w1.cell? ⟨gc, v.length, none⟩ = some (.string (it.cols.getD v.length noName)) := by
  have := hcs v.length hvl
  rw [Nat.zero_add] at this
  rw [this, getD_at _ _ hvl, getD_at _ _ hvl]
 have k0w : w.cell? ⟨gc, v.length, none⟩ = some (.string (it.cols.getD v.length noName)) := by
  obtain ⟨g', hg', k1, _⟩ := hx.1.at1 hvl
  simp only [Option.some.injEq, Addr.mk.injEq, and_true] at hg'
  subst hg'
  rw [k1, getD_at _ _ hvl]
  simp [hvl]
 have hgc1 : gc < w1.heap.size := Nat.lt_of_lt_of_le hgc hb1.size
 obtain ⟨⟨c0, c1, c2, c3, c4, c5, c6⟩, -⟩ := cells7 hN1
 have hs1 := lt_of_block hN1
 have HIDX : Hid (∀ W, W = w1 ∨ W = w1.drew → Calls Tryz.prog 165 #[.slice (some ⟨gc, 0, none⟩) v.length cc, .string (it.cols.getD v.length noName)] W fun e w' => e = .returned (.int .i64 (earlierP it.cols v.length)) ∧ w' = W) := hide (fun W hW => by
  refine Tryz.slices_Index_string gc 0 v.length cc it.cols _ W (Nat.le_of_lt hvl) (by omega) ?_
  rcases hW with rfl | rfl
  ·exact hcs
  ·exact hcs)
 have HB1 := hide hb1
 have hvc : (v.length : Int) < it.cols.length := by omega
 have hvk : (v.length : Int) ≤ cc := by omega
 have HCH : Hid (choiceP it.cols it.rules v = if 0 ≤ earlierP it.cols v.length then [v.getD (earlierP it.cols v.length).toNat 0] else candP it.cols (it.cols.getD v.length noName) it.rules) := hide rfl
 have hcase := earlier_case hvl
 clear hx hfv hwd hcs hb1 hN1
 obtain ⟨cl, hcl⟩ : ∃ cl, it.cols.getD v.length noName = cl := ⟨_, rfl⟩
 rw [hcl] at HCAND k0 k0w HIDX HCH
 obtain ⟨ei, hei⟩ : ∃ ei, earlierP it.cols v.length = ei := ⟨_, rfl⟩
 rw [hei] at HIDX HCH hcase
 clear hcl hei
 rcases hcase with ⟨rfl, _⟩ | ⟨j, hj, rfl, _⟩
 ·rw [if_neg (by decide)] at HCH
  go_enter Tryz.func135, Tryz.ntmps135
  go_wp2_with fail
  rw [← hw1]
  clear hw1
  go_wp2_with fail
  refine (uh HIDX _ (by first | exact Or.inl rfl | exact Or.inr rfl)).mono ?_
  rintro e w2 ⟨rfl, rfl⟩
  go_wp2_with fail
  refine (uh HCAND _ (by first | exact uh HB1 | exact (uh HB1).drew)).mono ?_
  rintro e w3 ⟨v', rfl, hb3, hs3⟩
  have HB3 := hide (below_after (uh HB1) hb3)
  have HS3 := hide hs3
  clear hb3 hs3
  go_wp2_with fail
  go_ret
  refine ⟨_, rfl, uh HB3, ?_⟩
  rw [uh HCH]
  exact uh HS3
 ·rw [if_pos (by omega), Int.toNat_natCast, getD_at _ _ hj] at HCH
  obtain ⟨gf, rfl, y0, hgf⟩ := ((uh HF).below (uh HB1)).at1 hj
  rw [show (ints v)[j]? = some (.int .i64 v[j]) by simp [ints, hj]] at y0
  have hjc : (j : Int) < v.length := by omega
  have hjn : ¬ (j : Int) < 0 := by omega
  have hjp : (0 : Int) ≤ j := by omega
  generalize v[j] = y at *
  go_enter Tryz.func135, Tryz.ntmps135
  go_wp2_with fail
  rw [← hw1]
  clear hw1
  go_wp2_with fail
  refine (uh HIDX _ (by first | exact Or.inl rfl | exact Or.inr rfl)).mono ?_
  rintro e w2 ⟨rfl, rfl⟩
  go_wp2_with fail
  go_ret
  refine ⟨_, rfl, (uh HB1).alloc (uh HB1).size _, ?_⟩
  rw [uh HCH]
  exact sl_of_arr (l := ints [y]) (alloc_last w2 _) (by decide) (by decide)
end Go.Proofs.YthnggjaecngbiaaGreatDoor
