import Derived.Test.YthnggjaecngbiaaGreatDoorSrA
namespace Go.Proofs.YthnggjaecngbiaaGreatDoor
open Go.RowKit

theorem owns_addr {w : World} {base : Nat} {e : TypeId} {v : Value} {n : Nat} {xs : List Value} (h : w.ownsRow base e 1 v n xs) (h0 : 0 < n) : ∃ g cap, v = .slice (some ⟨g, 0, none⟩) n cap ∧ base ≤ g := by
  rcases h.2 with ⟨_, h1⟩ | ⟨g, cap, cur, h1, h2, _⟩
  · omega
  · exact ⟨g, cap, h1, h2⟩
theorem ints_app (a b : List Int) : ints (a ++ b) = ints a ++ ints b := by simp [ints]

set_option maxRecDepth 100000 in
set_option maxHeartbeats 6400000 in
theorem candidates_any (x : LItem) (col : ByteArray) (w : World) (hx : ItemV w x) (hr8 : x.it.rules.length ≤ 8) (hc3 : x.it.cols.length ≤ 3) (hwd : ∀ r ∈ x.it.rules, r.tests.length = x.it.cols.length ∧ ∀ t ∈ r.tests, WfT t) :
    Calls Tryz.prog 166 #[iv x.it x.cv x.rv, .string col] w fun e w' => ∃ v, e = .returned v ∧ Below w.heap.size w w' ∧ SlAt w' 1 v (candP x.it.cols col x.it.rules).length (ints (candP x.it.cols col x.it.rules)) := by
  obtain ⟨it, cv, rv0, zv⟩ := x
  obtain ⟨co, cc, hcv⟩ := hx.1.form
  obtain ⟨ro, rc, hrv⟩ := hx.2.2.1.form
  simp only at hcv hrv
  subst hcv hrv
  simp only at hwd hr8 hc3 ⊢
  have hz := hx.2.1
  simp only at hz
  have hmap : (zv.zip it.rules).map Prod.snd = it.rules := List.map_snd_zip (by omega)
  have hzl : (zv.zip it.rules).length = it.rules.length := by simp; omega
  have hrs := hx.2.2.1
  simp only [rcells_z] at hrs
  have HT : Hid (∀ y ∈ zv.zip it.rules, SlAt w 4 y.1 y.2.tests.length (tsCells y.2.tests) ∧ y.2.tests.length = it.cols.length ∧ ∀ t ∈ y.2.tests, WfT t) := hide (fun y hy => ⟨hx.2.2.2 y hy, (hwd y.2 (List.of_mem_zip hy).2).1, (hwd y.2 (List.of_mem_zip hy).2).2⟩)
  have HC : Hid (SlAt w 1 (.slice co it.cols.length cc) it.cols.length (it.cols.map Value.string)) := hide hx.1
  simp only [iv, icells]
  obtain ⟨w1, hw1⟩ : ∃ w1, w1 = w.alloc (.cells #[.string it.name, .bool it.isT, .int .i64 (it.marks : Int), .int .u8 it.policy, .slice co it.cols.length cc, .int .i64 (it.drops : Int), .slice ro it.rules.length rc] 119) := ⟨_, rfl⟩
  have HB1 : Hid (Below w.heap.size w w1) := hide (by rw [hw1]; exact (Below.refl _ w).alloc (Nat.le_refl _) _)
  have HN1 : Hid (w1.heap[w.heap.size]? = some (.cells #[.string it.name, .bool it.isT, .int .i64 (it.marks : Int), .int .u8 it.policy, .slice co it.cols.length cc, .int .i64 (it.drops : Int), .slice ro it.rules.length rc] 119)) := hide (by rw [hw1]; exact alloc_last w _)
  have HS1 : Hid (w1.heap.size = w.heap.size + 1) := hide (by rw [hw1]; simp)
  have HV := hide hrs
  have HRAW : Hid (∀ j, j ≤ it.rules.length → (rawTo it.cols col it.rules j).length ≤ 49) := hide (fun j hj => by
    have := rawTo_len (cols := it.cols) (col := col) (n := 3) (fun r hr => by rw [(hwd r hr).1]; exact hc3) j hj
    omega)
  have HRAW43 : Hid (∀ j, j < it.rules.length → (rawTo it.cols col it.rules j).length ≤ 43) := hide (fun j hj => by
    have := rawTo_len (cols := it.cols) (col := col) (n := 3) (fun r hr => by rw [(hwd r hr).1]; exact hc3) j (by omega)
    omega)
  clear hx hrs hz hwd
  obtain ⟨zs, hzs⟩ : ∃ zs, zv.zip it.rules = zs := ⟨_, rfl⟩
  rw [hzs] at HT HV hmap hzl
  clear hzs
  rw [← hmap] at HRAW HRAW43 hr8 ⊢
  rw [← hzl] at HV HN1 hw1
  simp only [List.length_map] at HRAW HRAW43 hr8 ⊢
  clear hmap hzl
  generalize it.cols = cs at *
  generalize it.name = nm at *
  generalize it.isT = bT at *
  generalize (it.marks : Int) = mk at *
  generalize it.policy = po at *
  generalize (it.drops : Int) = dr at *
  obtain ⟨i0, hi, hz0, hz1, hz2⟩ := info_parts Tryz.info_int
  obtain ⟨w0, hw0⟩ : ∃ w0, w0 = w1.alloc (.cells #[.int .i64 (-1000000)] 3) := ⟨_, rfl⟩
  have HB0 : Hid (Below w1.heap.size w1 w0) := hide (by rw [hw0]; exact (Below.refl _ w1).alloc (Nat.le_refl _) _)
  have HO0 : Hid (w0.ownsRow w1.heap.size 3 1 (.slice (some ⟨w1.heap.size, 0, none⟩) 1 1) 1 (ints [-1000000])) := hide (by
    have h1 : w0.heap[w1.heap.size]? = some (.cells #[.int .i64 (-1000000)] 3) := by rw [hw0]; exact alloc_last w1 _
    exact owns_of_arr (l := ints [-1000000]) h1 (Nat.le_refl _) rfl (by decide) rfl)
  go_enter Tryz.func166, Tryz.ntmps166
  go_wp2_with fail
  rw [← hw1, ← unhide HS1, ← hw0]
  clear hw1 hw0
  go_loopg [5, 14] zs.length (fun g pv i wr => ∃ j : Nat, j ≤ zs.length ∧ g = zs.length - j ∧ i = .int .i64 (j : Int) ∧ Below w1.heap.size w1 wr ∧ wr.ownsRow w1.heap.size 3 1 pv (rawTo cs col (zs.map Prod.snd) j).length (ints (rawTo cs col (zs.map Prod.snd) j)))
  case atStart => exact ⟨0, by omega, rfl, rfl, unhide HB0, unhide HO0⟩
  case round =>
    obtain ⟨j, hj, hg, rfl, hb, hown⟩ := hrel
    have A : Aside (gk = zs.length - j ∧ Below w1.heap.size w1 wr ∧ wr.ownsRow w1.heap.size 3 1 u5 (rawTo cs col (zs.map Prod.snd) j).length (ints (rawTo cs col (zs.map Prod.snd) j))) := ⟨hg, hb, hown⟩
    clear hg hown
    by_cases hlt : j < zs.length
    · have hbw := below_after (unhide HB1) hb
      obtain ⟨g1, rfl, j0, j1, hg1⟩ := ((unhide HV).below hbw).at2 hlt
      have hf0 := flat_at zcells 2 (fun _ => rfl) zs j 0 hlt (by omega)
      have hf1 := flat_at zcells 2 (fun _ => rfl) zs j 1 hlt (by omega)
      rw [Nat.add_zero] at hf0
      rw [hf0] at j0
      rw [hf1] at j1
      simp only [zcells, List.getElem?_cons_zero, List.getElem?_cons_succ] at j0 j1
      have hps : rawTo cs col (zs.map Prod.snd) (j + 1) = rawTo cs col (zs.map Prod.snd) j ++ ruleTurnsTo cs col zs[j].2.tests zs[j].2.tests.length := by
        have := rawTo_succ cs col (zs.map Prod.snd) (j := j) (by simpa using hlt)
        simpa using this
      have hr49 := unhide HRAW (j + 1) (by omega)
      obtain ⟨hy1, hy2, hy3⟩ := unhide HT zs[j] (List.getElem_mem hlt)
      have hjc : (j : Int) < zs.length := by omega
      have HBW := hide hbw
      clear hf0 hf1 hb hbw
      generalize zs[j] = y at *
      obtain ⟨yv, yts, ynum⟩ := y
      simp only at j0 j1 hy1 hy2 hy3 hps
      obtain ⟨yo, yc, hyv⟩ := hy1.form
      subst hyv
      have HY := hide hy1
      have HYL := hide hy2
      have HYW := hide hy3
      rw [hps] at hr49
      rw [List.length_append] at hr49
      have HPS := hide hps
      have HRL : Hid (∀ m, m ≤ yts.length → (ruleTurnsTo cs col yts m).length ≤ 2 * m) := hide (fun m _ => ruleTurnsTo_len cs col yts m)
      clear hy1 hy2 hy3 hps
      obtain ⟨r0, hr0⟩ : ∃ r0, rawTo cs col (zs.map Prod.snd) j = r0 := ⟨_, rfl⟩
      have hr43 := unhide HRAW43 j hlt
      have HB2 : Hid (Below wr.heap.size wr (wr.alloc (.cells #[.slice yo yts.length yc, .int .i64 ynum] 160))) := hide ((Below.refl _ wr).alloc (Nat.le_refl _) _)
      go_wp2_with fail
      obtain ⟨w2, hw2⟩ : ∃ w2, w2 = wr.alloc (.cells #[.slice yo yts.length yc, .int .i64 ynum] 160) := ⟨_, rfl⟩
      rw [← hw2] at HB2 ⊢
      clear hw2 j0 j1
      have HOW2 := hide (owns_below A.out.2.2 (unhide HB2))
      have HB12 := hide (below_after A.out.2.1 (unhide HB2))
      rw [hr0] at HOW2 HPS hr49 hr43
      have HR0 := hide hr43
      clear hr43
      clear hr0
      go_loopg [5, 21] yts.length (fun g pv i wx => ∃ m : Nat, m ≤ yts.length ∧ g = yts.length - m ∧ i = .int .i64 (m : Int) ∧ Below w1.heap.size w1 wx ∧ wx.ownsRow w1.heap.size 3 1 pv (r0 ++ ruleTurnsTo cs col yts m).length (ints (r0 ++ ruleTurnsTo cs col yts m)))
      case atStart => exact ⟨0, by omega, rfl, rfl, unhide HB12, by simpa [ruleTurnsTo] using unhide HOW2⟩
      case round =>
        obtain ⟨m, hm, hg, rfl, hb, hown⟩ := hrel
        have B : Aside (gk = yts.length - m ∧ Below w1.heap.size w1 wr ∧ wr.ownsRow w1.heap.size 3 1 u5 (r0 ++ ruleTurnsTo cs col yts m).length (ints (r0 ++ ruleTurnsTo cs col yts m))) := ⟨hg, hb, hown⟩
        clear hg hown
        by_cases hmt : m < yts.length
        · have hmc : m < cs.length := by have := unhide HYL; omega
          have hbw := below_after (unhide HB1) hb
          rcases (unhide HY).below hbw with ⟨h0, _⟩ | ⟨g2, cap2, hv2, hc2, hm2, hgl2, hx2⟩
          · omega
          simp only [Value.slice.injEq] at hv2
          obtain ⟨rfl, _, rfl⟩ := hv2
          have key : ∀ i, i < 4 → wr.cell? ⟨g2, m * 4 + i, none⟩ = (tcells yts[m])[i]? := fun i hi => by
            rw [hx2 _ (by omega)]
            exact flat_at tcells 4 (fun _ => rfl) yts m i hmt hi
          have k0 := key 0 (by omega)
          have k1 := key 1 (by omega)
          have k2 := key 2 (by omega)
          have k3 := key 3 (by omega)
          simp only [tcells, List.getElem?_cons_zero, List.getElem?_cons_succ, Nat.add_zero] at k0 k1 k2 k3
          obtain ⟨gc, rfl, q0, hgc⟩ := ((unhide HC).below hbw).at1 hmc
          rw [show (cs.map Value.string)[m]? = some (.string cs[m]) by simp [hmc]] at q0
          have hNr := (hb.block _ (lt_of_block (unhide HN1))).trans (unhide HN1)
          obtain ⟨⟨-, -, -, -, c4, -, -⟩, -⟩ := cells7 hNr
          have hs1 := lt_of_block hNr
          have hst := ruleTurnsTo_succ cs col yts m
          rw [getD_at _ _ hmc, getD_at _ _ hmt] at hst
          have hwt := unhide HYW yts[m] (List.getElem_mem hmt)
          have hmy : (m : Int) < yts.length := by omega
          have hmd : (m : Int) < cs.length := by omega
          have hrl := unhide HRL m (by omega)
          have hrl2 := unhide HRL (m + 1) (by omega)
          have hyl3 : yts.length ≤ 3 := by have := unhide HYL; omega
          generalize yts[m] = t at *
          generalize cs[m] = cm at *
          obtain ⟨t0, t1, t2, t3⟩ := t
          simp only at k0 k1 k2 k3
          have hk := hwt.kind
          have hlo := hwt.low
          have hhi := hwt.high
          simp only at hk hlo hhi
          have HS := hide hst
          obtain ⟨raw, hraw⟩ : ∃ raw, r0 ++ ruleTurnsTo cs col yts m = raw := ⟨_, rfl⟩
          have hrw : raw.length ≤ 49 := by
            rw [← hraw, List.length_append]
            have := unhide HR0
            omega
          have HSR : Hid (r0 ++ ruleTurnsTo cs col yts (m + 1) = raw ++ (if sameName cm col then turnsP ⟨t0, t1, t2, t3⟩ else [])) := hide (by rw [hst, ← List.append_assoc, hraw])
          have HOW := hide B.out.2.2
          rw [hraw] at HOW
          have HBR := hide hb
          clear key hx2 hc2 hm2 hst hwt hraw hbw hNr hrl hrl2 hb
          have k0' := k0
          have HBA : Hid (Below w1.heap.size w1 (wr.alloc (.cells #[.int .i64 (t0 : Int), .int .i64 t1, .int .i64 t2, .int .i64 t3] 193))) := hide ((unhide HBR).alloc (unhide HBR).size _)
          have HOWA : Hid ((wr.alloc (.cells #[.int .i64 (t0 : Int), .int .i64 t1, .int .i64 t2, .int .i64 t3] 193)).ownsRow w1.heap.size 3 1 u5 raw.length (ints raw)) := hide ((unhide HOW).alloc _)
          clear k0'
          cases hp : sameName cm col with
          | false =>
            have hp2 : (cm.toList == col.toList) = false := hp
            rw [hp, if_neg (by simp), List.append_nil] at HSR
            clear hp
            go_wp2_with fail
            go_roundg (yts.length - (m + 1))
            case measure => have := B.out.1; omega
            case rel => exact ⟨m + 1, by omega, rfl, by go_num, unhide HBA, by rw [unhide HSR]; exact unhide HOWA⟩
          | true =>
            have hp2 : (cm.toList == col.toList) = true := hp
            rw [hp, if_pos rfl] at HSR
            clear hp
            by_cases hk2 : t1 ≤ 2
            · rw [turnsP_none hk2, List.append_nil] at HSR
              obtain ⟨uo, uc, hu5⟩ := (SlAt.of_owns (unhide HOW)).form
              subst hu5
              have HCAP := hide (owns_cap (unhide HOW))
              go_wp2_with fail
              refine (turns_none t0 t1 t2 t3 _ ⟨hk.1, hk2⟩).mono ?_
              rintro e w3 ⟨rfl, hb3⟩
              have HB3 := hide (below_after (unhide HBA) hb3)
              have HOW3 := hide (owns_below (unhide HOWA) hb3)
              clear hb3
              go_wp2_with (at_builtin; refine wpList_append_zero (by rfl) _ _ _ (by rfl) 3 i0 Tryz.underlying25 hi uo raw.length uc (unhide HCAP) none 0 0 rfl (by rfl) (by rfl) ?_)
              go_roundg (yts.length - (m + 1))
              case measure => have := B.out.1; omega
              case rel => exact ⟨m + 1, by omega, rfl, by go_num, unhide HB3, by rw [unhide HSR]; exact unhide HOW3⟩
            · obtain ⟨TL, hTL⟩ : ∃ TL, turnsP ⟨t0, t1, t2, t3⟩ = TL := ⟨_, rfl⟩
              have hTl := turnsP_len ⟨t0, t1, t2, t3⟩
              have HTP : Hid (0 < TL.length) := hide (by
                rw [← hTL]
                unfold turnsP
                rcases (by omega : t1 = 3 ∨ t1 = 4 ∨ t1 = 5 ∨ t1 = 6) with h | h | h | h <;> simp [h])
              have HTS := hide (turns_some t0 t1 t2 t3)
              rw [hTL] at HSR HTS hTl
              clear hTL
              go_wp2_with fail
              refine (unhide HTS _ ⟨by omega, hk.2⟩ hlo hhi).mono ?_
              rintro e w3 ⟨rfl, hb3, harr⟩
              obtain ⟨gt, hgt⟩ : ∃ gt, (wr.alloc (.cells #[.int .i64 (t0 : Int), .int .i64 t1, .int .i64 t2, .int .i64 t3] 193)).heap.size + 1 = gt := ⟨_, rfl⟩
              rw [hgt] at harr ⊢
              clear hgt
              have HB3 := hide (below_after (unhide HBA) hb3)
              have HOW3 := hide (owns_below (unhide HOWA) hb3)
              have HNT : Hid (∀ q u, (ints TL)[q]? = some u → w3.cell? ((⟨gt, 0, none⟩ : Addr).add q) = some u) := hide (fun q u hu => by
                rw [Addr.add_lit, Nat.zero_add, (arr_cell harr q).1, hu])
              have HLT : Hid ((ints TL).length = TL.length * 1) := hide (by simp [ints])
              have HOT : Hid (∀ u ∈ ints TL, u.oneCell' = true) := hide (fun u hu => by obtain ⟨x, _, rfl⟩ := List.mem_map.1 hu; rfl)
              have HM1 : Hid (raw.length + TL.length ≤ maxLen) := hide (Nat.le_trans (show raw.length + TL.length ≤ 101 by omega) (by decide))
              have HM2 : Hid ((raw.length + TL.length) * 8 ≤ 140737488355328) := hide (Nat.le_trans (Nat.mul_le_mul_right 8 (show raw.length + TL.length ≤ 101 by omega)) (by decide))
              clear hb3 harr
              go_wp2_with (at_builtin; refine wpList_append_lies _ (by rfl) _ _ _ (by rfl) w1.heap.size 3 i0 _ 1 8 Tryz.underlying25 hi hz0 hz1 hz2 rfl (by decide) u5 raw.length (ints raw) (by rfl) (unhide HOW3) ⟨gt, 0, none⟩ _ _ (ints TL) (by rfl) (unhide HLT) (unhide HNT) (unhide HOT) (unhide HTP) (unhide HM1) (unhide HM2) (unhide HB3).size w3.heap.size rfl ?_; intro gg cap w7 hown7 hgrow7 hat7 hlt7; have AB := hide (And.intro (below_grown (unhide HB3) hgrow7 (fun q hq => ((unhide HOW3).lt q hq).1)) hown7); clear hown7 hgrow7 hat7 hlt7)
              go_roundg (yts.length - (m + 1))
              case measure => have := B.out.1; omega
              case rel => exact ⟨m + 1, by omega, rfl, by go_num, (unhide AB).1, by rw [unhide HSR, List.length_append, ints_app]; exact (unhide AB).2⟩
        · have hme : m = yts.length := by omega
          have hmc : ¬ (m : Int) < yts.length := by omega
          have HFIN : Hid (wr.ownsRow w1.heap.size 3 1 u5 (rawTo cs col (zs.map Prod.snd) (j + 1)).length (ints (rawTo cs col (zs.map Prod.snd) (j + 1)))) := hide (by
            rw [unhide HPS, ← hme]
            exact B.out.2.2)
          clear hme hb
          go_wp2_with fail
          go_roundg (zs.length - (j + 1))
          case measure => have := A.out.1; omega
          case rel => exact ⟨j + 1, by omega, rfl, by go_num, B.out.2.1, unhide HFIN⟩
    · have hje : j = zs.length := by omega
      have hjc : ¬ (j : Int) < zs.length := by omega
      have HOW : Hid (wr.ownsRow w1.heap.size 3 1 u5 (rawP cs col (zs.map Prod.snd)).length (ints (rawP cs col (zs.map Prod.snd)))) := hide (by
        have := A.out.2.2
        rw [hje] at this
        unfold rawP
        simpa using this)
      have hlr : 0 < (rawP cs col (zs.map Prod.snd)).length := by unfold rawP rawTo; simp
      have hl49 : (rawP cs col (zs.map Prod.snd)).length ≤ 49 := by
        have := unhide HRAW zs.length (Nat.le_refl _)
        unfold rawP
        simpa using this
      have HBR := hide (below_after (unhide HB1) hb)
      have HCP : Hid (candP cs col (zs.map Prod.snd) = Lib.compact (((rawP cs col (zs.map Prod.snd)).filter fun n => !decide (1000000 < n)).mergeSort fun x y => decide (x ≤ y))) := hide rfl
      obtain ⟨gq, cq, rfl, hgq⟩ := owns_addr (unhide HOW) hlr
      clear hje hb A hlr
      generalize rawP cs col (zs.map Prod.snd) = raw at *
      obtain ⟨ke, hke⟩ : ∃ ke, (raw.filter fun n => !decide (1000000 < n)) = ke := ⟨_, rfl⟩
      have hkl : ke.length ≤ 49 := by
        rw [← hke]
        exact Nat.le_trans (List.length_filter_le _ _) hl49
      have HDEL := hide (fun w' h => delete_any w1.heap.size gq cq raw w' h)
      rw [hke] at HDEL HCP
      clear hke
      obtain ⟨so, hso⟩ : ∃ so, (ke.mergeSort fun x y => decide (x ≤ y)) = so := ⟨_, rfl⟩
      have HSRT := hide (fun w' h => sort_any w1.heap.size gq cq ke w' (by omega) h)
      have HSL : Hid (ke.length = so.length) := hide (by rw [← hso]; simp)
      rw [hso] at HSRT HCP
      clear hso
      go_wp2_with fail
      refine (unhide HDEL _ (unhide HOW)).mono ?_
      rintro e w2 ⟨rfl, ho2, hb2⟩
      have HO2 := hide ho2
      have HB2 := hide hb2
      clear ho2 hb2
      go_wp2_with fail
      refine (unhide HSRT _ (unhide HO2)).mono ?_
      rintro e w3 ⟨rfl, ho3, hb3⟩
      have HO3 := hide ho3
      have HB3 := hide ((unhide HB2).trans hb3)
      clear ho3 hb3
      rw [unhide HSL]
      go_wp2_with fail
      refine (compactI_any w1.heap.size gq cq so _ (unhide HO3)).mono ?_
      rintro e w4 ⟨rfl, ho4, hb4⟩
      have HO4 := hide ho4
      have HB4 := hide ((unhide HB3).trans hb4)
      clear ho4 hb4
      go_wp2_with fail
      go_ret
      refine ⟨_, rfl, (unhide HBR).trans ((unhide HB4).mono (unhide HB1).size), ?_⟩
      rw [unhide HCP]
      exact SlAt.of_owns (unhide HO4)
end Go.Proofs.YthnggjaecngbiaaGreatDoor
