import Derived.Test.YthnggjaecngbiaaGreatDoorCuA
namespace Go.Proofs.YthnggjaecngbiaaGreatDoor
open Go.RowKit

theorem Tryz.info_bool : (Tryz.prog.info? 4).map (fun i => (i.zero, i.size, i.bytes)) = some (some (.bool false), 1, 1) := by kernel_rfl
def knownTo (ls : List Nat) (c : Nat) (j : Nat) : List Value := (List.range j).map fun i => Value.bool (seenB (ls.getD i 0) c)
theorem knownTo_succ (ls : List Nat) (c : Nat) (j : Nat) : knownTo ls c (j + 1) = knownTo ls c j ++ [.bool (seenB (ls.getD j 0) c)] := by
  unfold knownTo
  rw [List.range_succ, List.map_append]
  rfl
theorem labelP_at {its : List PItem} (ok : OkPlan its) {j : Nat} (h : j < its.length) : labelP its its[j].name = ((((labsP its).getD j 0 : Nat) : Int), 0) := by
  have hn := ok.names j h
  unfold labelP
  rw [placeP_named, hn, if_pos (by simp), Int.toNat_natCast]
theorem labs_le7 {its : List PItem} (ok : OkPlan its) (j : Nat) : (labsP its).getD j 0 ≤ 7 := getD_le7 (labsTo_le (fun it hi => (ok.marks it hi).1) _) j
/-- A run's cells. -/
theorem RunAt.all {base : Nat} {w : World} {b : Nat} {its : List PItem} (h : RunAt base w b its) : ∃ g ao ic, (w.cell? ⟨b, 0, none⟩ = some (.pointer (some ⟨g, 0, none⟩)) ∧ w.cell? ⟨b, 1, none⟩ = some (.slice ao its.length ic) ∧ w.cell? ⟨b, 2, none⟩ = some (.int .i64 (inputsP its : Int))) ∧ b < w.heap.size ∧ PlanAt w g its ∧ ∀ (j : Nat) (hj : j < its.length), ∃ iv, ao = some ⟨iv, 0, none⟩ ∧ its.length ≤ ic ∧ ic ≤ maxLen ∧ iv < w.heap.size ∧ w.cell? ⟨iv, j * 3, none⟩ = some (.string its[j].name) ∧ w.cell? ⟨iv, j * 3 + 1, none⟩ = some (.bool its[j].isT) ∧ w.cell? ⟨iv, j * 3 + 2, none⟩ = some (.bool (decide (its[j].drops ≠ 0))) := by
  obtain ⟨g, v, h1, h2, h3⟩ := h
  obtain ⟨⟨c0, c1, c2⟩, _⟩ := box3 h1
  obtain ⟨ao, ic, rfl⟩ := (SlAt.of_owns h3).form
  refine ⟨g, ao, ic, ⟨c0, c1, c2⟩, lt_of_block h1, h2, fun j hj => ?_⟩
  rcases SlAt.of_owns h3 with ⟨h0, _⟩ | ⟨iv, ic', hv, hc, hm, hg, hx⟩
  · omega
  simp only [Value.slice.injEq] at hv
  obtain ⟨rfl, _, rfl⟩ := hv
  have key : ∀ i, i < 3 → w.cell? ⟨iv, j * 3 + i, none⟩ = (kcells (kOf its[j]))[i]? := fun i hi => by
    rw [hx _ (by omega)]
    exact flat_at (fun it => kcells (kOf it)) 3 (fun _ => rfl) its j i hj hi
  exact ⟨iv, rfl, hc, hm, hg, by have := key 0 (by omega); rw [Nat.add_zero] at this; rw [this]; rfl, by rw [key 1 (by omega)]; rfl, by rw [key 2 (by omega)]; rfl⟩

theorem cu_push {w wr w7 : World} {o : Obj} {kv kv' : Value} {wv : Value} {n m m' : Nat} {xs ks ks' : List Value} (hb : Below w.heap.size w wr) (hw : wr.ownsRow w.heap.size 3 1 wv n xs) (hk : wr.ownsRow w.heap.size 4 1 kv m ks) (hg : (wr.alloc o).grownBy w7 kv.ownBlock) (hk7 : w7.ownsRow w.heap.size 4 1 kv' m' ks') :
    Below w.heap.size w w7 ∧ w7.ownsRow w.heap.size 3 1 wv n xs ∧ w7.ownsRow w.heap.size 4 1 kv' m' ks' := by
  refine ⟨below_grown (hb.alloc hb.size o) hg (fun q hq => (hk.lt q hq).1), owns_keep hw (fun gg c _ hgg => ?_), hk7⟩
  rw [hg.block gg (by have := lt_of_block hgg; simp; omega) (fun e => ?_), Below.heap_alloc _ _ _ (lt_of_block hgg)]
  obtain ⟨_, c', hc'⟩ := owns_row' hk gg e.symm
  rw [hgg] at hc'
  simp at hc'
theorem ints_set (l : List Int) (i : Nat) (x : Int) : ints (l.set i x) = (ints l).set i (.int .i64 x) := by
  unfold ints; rw [List.map_set]
theorem SlAt.lt {w : World} {size g n cap : Nat} {xs : List Value} (h : SlAt w size (.slice (some ⟨g, 0, none⟩) n cap) n xs) (hn : 0 < n) : g < w.heap.size := by
  rcases h with ⟨h0, _⟩ | ⟨g', cap', hv, _, _, hg, _⟩
  · omega
  · simp only [Value.slice.injEq, Option.some.injEq, Addr.mk.injEq] at hv
    rw [hv.1.1]; exact hg
set_option maxRecDepth 100000 in
theorem value_eqIn (x0 x1 y0 y1 : Int) (w : World) : (Op.equalIn 10000 51 (.agg #[.int .i64 x0, .int .i64 x1]) (.agg #[.int .i64 y0, .int .i64 y1])).run Tryz.prog w = .ok (x0 == y0 && x1 == y1) w := by
  have hs : Tryz.prog.stoodInHeld 51 = false := by kernel_rfl
  rw [run_equalIn_agg w 9999 51 _ _ (by simp [Program.fieldsOf, Tryz.underlying51]) hs]
  by_cases h0 : x0 = y0
  · subst h0
    by_cases h1 : x1 = y1
    · subst h1
      simp [Program.fieldsOf, Tryz.underlying51, go_sem]
    · simp [Program.fieldsOf, Tryz.underlying51, go_sem, h1]
  · simp [Program.fieldsOf, Tryz.underlying51, go_sem, h0]
theorem below_drewN {B : Nat} {w w' : World} (h : Below B w w') (n : Nat) : Below B w (w'.drewN n) := ⟨h.os, h.tape, h.output, h.size, h.block⟩
theorem planAt_drew {w : World} {g : Nat} {its : List PItem} (h : PlanAt w g its) : PlanAt w.drew g its := h.below ⟨rfl, rfl, rfl, Nat.le_refl _, fun _ _ => rfl⟩

set_option maxRecDepth 100000 in
set_option maxHeartbeats 6400000 in
theorem curtained_any (s : ByteArray) (clear : Int) (ov tv : Value) (one two : List Int) (w : World) (hm : s.size ≤ maxLen) (h1 : RawV w ov one) (h1b : ∀ x ∈ one, -9223372036854775808 ≤ x ∧ x ≤ 9223372036854775807) (h2 : RawV w tv two) (h2b : ∀ x ∈ two, -9223372036854775808 ≤ x ∧ x ≤ 9223372036854775807) (hc1 : -9223372036854775808 ≤ clear) (hc2 : clear ≤ 9223372036854775807) (ht : Tab w) :
    Calls Tryz.prog 6 #[.string s, .int .i64 clear, ov, tv] w fun e w' => e = .returned (.bool true) ∧ Below w.heap.size w w' := by
  obtain ⟨oo, oc, rfl⟩ := h1.form
  obtain ⟨to2, tc, rfl⟩ := h2.form
  have HT := hide ht
  have HM := hide hm
  have H1 := hide h1
  have H1B := hide h1b
  have H2 := hide h2
  have H2B := hide h2b
  have hok := planK_ok s
  have hin := inputsP_le hok
  have hl12 := hok.len
  obtain ⟨its, hits⟩ : ∃ its, planK s = its := ⟨_, rfl⟩
  rw [hits] at hok hin hl12
  have HOK := hide hok
  have HITS := hide hits
  obtain ⟨i0, hi, hz0, hz1, hz2⟩ := info_parts Tryz.info_bool
  clear ht hm h1 h1b h2 h2b hok hits
  go_enter Tryz.func6, Tryz.ntmps6
  go_wp2_with fail
  refine (begun_any _ (unhide HT)).mono ?_
  rintro e w1 ⟨rfl, hb1⟩
  have HB1 := hide hb1
  have HT1 := hide (tab_below hb1 (unhide HT))
  clear hb1
  go_wp2_with fail
  refine (made_any s _ (unhide HM) (unhide HT1)).mono ?_
  rintro e w2 ⟨b, rfl, hb2, hrun⟩
  rw [unhide HITS] at hrun
  have HB2 := hide (below_after (unhide HB1) hb2)
  have HT2 := hide (tab_below hb2 (unhide HT1))
  have HR2 := hide hrun
  clear hb2 hrun
  go_wp2_with fail
  refine (pick_any clear 8 _ (by omega) (by omega) hc1 hc2).mono ?_
  rintro e w9 ⟨rfl, hw9⟩
  rw [hw9]
  clear hw9 w9
  have hpk : pickP clear 8 < 8 := Nat.mod_lt _ (by omega)
  generalize pickP clear 8 = c at *
  have hc7 : c ≤ 7 := by omega
  go_wp2_with fail
  refine (values_any _ b its _ one _ (unhide HR2) ((unhide H1).below (unhide HB2)) (unhide H1B) hin).mono ?_
  rintro e w3 ⟨vv3, rfl, hb3, hvo⟩
  obtain ⟨vo, vc, rfl⟩ := (SlAt.of_owns hvo).form
  have HB3 := hide (below_after (unhide HB2) hb3)
  have HT3 := hide (tab_below hb3 (unhide HT2))
  have HR3 := hide ((unhide HR2).below hb3)
  have HV3 := hide (SlAt.of_owns hvo)
  clear hb3 hvo
  go_wp2_with fail
  refine (values_any _ b its _ two _ (unhide HR3) ((unhide H2).below (unhide HB3)) (unhide H2B) hin).mono ?_
  rintro e w4 ⟨vv4, rfl, hb4, hwo⟩
  obtain ⟨wo, wc, rfl⟩ := (SlAt.of_owns hwo).form
  have HB4 := hide hb4
  have HW4 := hide hwo
  clear hb4 hwo
  have hVl := valsK_len one (inputsP its)
  have hWl := valsK_len two (inputsP its)
  have HVF := hide (valsK_fits its one)
  have HWF := hide (valsK_fits its two)
  generalize valsK one (inputsP its) = V at *
  generalize valsK two (inputsP its) = W at *
  have HVL := hide hVl
  have HWL := hide hWl
  clear hVl hWl
  obtain ⟨n, hn⟩ : ∃ n, n = inputsP its := ⟨_, rfl⟩
  have HN := hide hn
  rw [← hn] at hin HVL HWL
  clear hn
  obtain ⟨ls, hls⟩ : ∃ ls, ls = labsP its := ⟨_, rfl⟩
  have HLS := hide hls
  clear hls
  rw [unhide HVL] at HV3 ⊢
  rw [unhide HWL] at HW4 ⊢
  go_wp2_with fail
  go_loopg [14, 15, 16] its.length (fun g av kv iv wr => ∃ j : Nat, j ≤ its.length ∧ g = its.length - j ∧ iv = .int .i64 (j : Int) ∧ av = .int .i64 (inputsTo its j : Int) ∧ Below w3.heap.size w3 wr ∧ wr.ownsRow w3.heap.size 3 1 (.slice wo n wc) n (ints (mixTo its ls c V W j)) ∧ wr.ownsRow w3.heap.size 4 1 kv j (knownTo ls c j))
  case atStart => exact ⟨0, by omega, rfl, rfl, by simp [inputsTo], unhide HB4, unhide HW4, World.ownsRow_nil _ _ _ _⟩
  case round =>
    obtain ⟨j, hj, hg, rfl, rfl, hb, hwo, hko⟩ := hrel
    have A : Aside (gk = its.length - j ∧ Below w3.heap.size w3 wr ∧ wr.ownsRow w3.heap.size 3 1 (.slice wo n wc) n (ints (mixTo its ls c V W j)) ∧ wr.ownsRow w3.heap.size 4 1 u15 j (knownTo ls c j)) := ⟨hg, hb, hwo, hko⟩
    clear HB4 HW4
    obtain ⟨g, ao, ic, ⟨c0, c1, c2⟩, hbl, hpl, hits⟩ := ((unhide HR3).below hb).all
    have HPL := hide hpl
    have hsz := hb.size
    have hile := inputsTo_le its j
    clear hg hwo hko hpl
    by_cases hlt : j < its.length
    · obtain ⟨iv, rfl, hic, him, hivl, k0, k1, k2⟩ := hits j hlt
      have hlab := labelP_at (unhide HOK) hlt
      have h7 := labs_le7 (unhide HOK) j
      rw [← unhide HLS] at hlab h7
      have hmx : mixTo its ls c V W (j + 1) = if its[j].isT then mixTo its ls c V W j else if seenB (ls.getD j 0) c then (mixTo its ls c V W j).set (inputsTo its j) (V.getD (inputsTo its j) 0) else mixTo its ls c V W j := by rw [mixTo, getD_at its noItem hlt]
      have HMX := hide hmx
      have HIS := hide (inputsTo_succ hlt)
      have hmono := inputsTo_mono its (i := j + 1) (j := its.length) (by omega)
      have hnn := unhide HN
      unfold inputsP at hnn
      have hatn : its[j].isT = false → inputsTo its j < n := fun hT => by
        have := unhide HIS
        rw [hT, if_neg (by simp)] at this
        omega
      have HATN := hide hatn
      have HKN := hide (knownTo_succ ls c j)
      have HLAB := hide hlab
      have hjc : (j : Int) < its.length := by omega
      obtain ⟨it, hit⟩ : ∃ it, it = its[j] := ⟨_, rfl⟩
      have HIT := hide hit
      rw [← hit] at k0 k1 k2 HMX HIS HATN HLAB
      clear hit
      generalize ls.getD j 0 = lb at *
      clear hb hits hlab hmx hatn hmono hnn him hic
      go_wp2_with fail
      have HCALL := hide (label_any g its it.name wr.drew (planAt_drew (unhide HPL)))
      go_region_with (go_at_call 18; refine (unhide HCALL).mono ?_; rintro e w5 ⟨rfl, hb5⟩; rw [unhide HLAB]; have HB5 := hide (below_of_drew hb5); clear hb5)
      all_goals
        have hl7a : ¬ ((lb : Int) < 0) := by omega
        have hl7b : ¬ ((7 : Int) < (lb : Int)) := by omega
        have HB5b := hide (below_after A.out.2.1 (unhide HB5))
        have HW5 := hide (owns_below A.out.2.2.1 (unhide HB5))
        have HK5 := hide (owns_below A.out.2.2.2 (unhide HB5))
        have hsz5 := (unhide HB5b).size
        go_wp2_with fail
        refine (seen_any lb c _ h7 hc7).mono ?_
        rintro e w9 ⟨rfl, hw9⟩
        rw [hw9]
        clear hw9 w9
        cases hT : it.isT with
        | true =>
          rw [hT] at k1
          have HTT := hide hT
          clear hT
          go_wp2_with (at_builtin; refine wpList_append_lies _ (by rfl) _ _ _ (by rfl) w3.heap.size 4 i0 _ 1 1 Tryz.underlying41 hi hz0 hz1 hz2 rfl (by decide) u15 j (knownTo ls c j) (by rfl) ((unhide HK5).alloc _) ⟨w5.heap.size, 0, none⟩ 1 1 [.bool (seenB lb c)] (by rfl) (by rfl) (World.news_of_block (cs := #[.bool (seenB lb c)]) (t := 4) (fr := (0, 0)) (heap_alloc_new w5 _)) (by simp [Value.oneCell']) (by decide) (by unfold maxLen; omega) (by omega) (by simp; omega) (w5.heap.size + 1) (by simp) ?_; intro gg cap w7 hown7 hgrow7 hat7 hlt7; have AB := hide (cu_push (unhide HB5b) (unhide HW5) (unhide HK5) hgrow7 hown7); obtain ⟨g7, ao7, ic7, ⟨p0, p1, p2⟩, pbl, ppl, pits⟩ := ((unhide HR3).below (unhide AB).1).all; obtain ⟨iv7, rfl, pic, pim, pivl, q0, q1, q2⟩ := pits j hlt; rw [← unhide HIT] at q0 q1 q2; rw [unhide HTT] at q1; clear ppl pits q0 q2 pim hown7 hgrow7 hat7 hlt7)
          go_roundg (its.length - (j + 1))
          case measure => have := A.out.1; omega
          case rel =>
            refine ⟨j + 1, by omega, rfl, by go_num, ?_, (unhide AB).1, ?_, ?_⟩
            · rw [unhide HIS, unhide HTT]; rfl
            · rw [unhide HMX, unhide HTT, if_pos rfl]; exact (unhide AB).2.1
            · rw [unhide HKN]; exact (unhide AB).2.2
        | false =>
          rw [hT] at k1
          have HTT := hide hT
          have hat := unhide HATN hT
          have hatc : ((inputsTo its j : Nat) : Int) < n := by omega
          clear hT
          cases hS : seenB lb c with
          | true =>
            have HSS := hide hS
            clear hS
            rcases (unhide HV3) with ⟨h0, _⟩ | ⟨gv, vcap, hv2, hvc2, hvm2, hvgl, hvx⟩
            · omega
            simp only [Value.slice.injEq] at hv2
            obtain ⟨rfl, _, rfl⟩ := hv2
            obtain ⟨wg, hwg⟩ : ∃ wg, wo = some ⟨wg, 0, none⟩ := by
              rcases SlAt.of_owns (unhide HW5) with ⟨h0, _⟩ | ⟨g', cap', hv', _⟩
              · omega
              · simp only [Value.slice.injEq] at hv'; exact ⟨g', hv'.1⟩
            subst hwg
            go_wp2_with (at_builtin; refine wpList_append_lies _ (by rfl) _ _ _ (by rfl) w3.heap.size 4 i0 _ 1 1 Tryz.underlying41 hi hz0 hz1 hz2 rfl (by decide) u15 j (knownTo ls c j) (by rfl) ((unhide HK5).alloc _) ⟨w5.heap.size, 0, none⟩ 1 1 [.bool true] (by rfl) (by rfl) (World.news_of_block (cs := #[.bool true]) (t := 4) (fr := (0, 0)) (heap_alloc_new w5 _)) (by simp [Value.oneCell']) (by decide) (by unfold maxLen; omega) (by omega) (by simp; omega) (w5.heap.size + 1) (by simp) ?_; intro gg cap w7 hown7 hgrow7 hat7 hlt7; have AB := hide (cu_push (unhide HB5b) (unhide HW5) (unhide HK5) hgrow7 hown7); obtain ⟨g7, ao7, ic7, ⟨p0, p1, p2⟩, pbl, ppl, pits⟩ := ((unhide HR3).below (unhide AB).1).all; obtain ⟨iv7, rfl, pic, pim, pivl, q0, q1, q2⟩ := pits j hlt; rw [← unhide HIT] at q0 q1 q2; rw [unhide HTT] at q1; have e0 := (unhide AB).1.cell (p := ⟨gv, inputsTo its j, none⟩) hvgl; rw [hvx (inputsTo its j) (by omega)] at e0; rw [show (ints V)[inputsTo its j]? = some (.int .i64 (V.getD (inputsTo its j) 0)) by rw [getD_at _ _ (by rw [unhide HVL]; exact hat)]; simp [ints, unhide HVL, hat]] at e0; obtain ⟨o1, o2, o3, o4, o5⟩ := owns_set1 (unhide AB).2.1 hat (.int .i64 (V.getD (inputsTo its j) 0)); have O1 := hide o1; have O4 := hide o4; have O5 := hide o5; rw [show (ints (mixTo its ls c V W j))[inputsTo its j]? = some (.int .i64 ((mixTo its ls c V W j).getD (inputsTo its j) 0)) by rw [getD_at _ _ (by rw [mixTo_len, unhide HWL]; exact hat)]; simp [ints, mixTo_len, unhide HWL, hat]] at o2; have hwl := SlAt.lt (SlAt.of_owns (unhide AB).2.1) (by omega); clear o1 o4 o5; clear ppl pits q0 q2 pim hown7 hgrow7 hat7 hlt7)
            go_roundg (its.length - (j + 1))
            case measure => have := A.out.1; omega
            case rel =>
              refine ⟨j + 1, by omega, rfl, by go_num, ?_, (unhide AB).1.setCell (p := ⟨wg, inputsTo its j, none⟩) (unhide O4) _, ?_, ?_⟩
              · rw [unhide HIS, unhide HTT]; simp
              · rw [unhide HMX, unhide HTT, if_neg (by simp), unhide HSS, if_pos rfl, ints_set]; exact unhide O1
              · rw [unhide HKN, unhide HSS]
                obtain ⟨cc, hcc⟩ := unhide O5
                exact owns_keep (unhide AB).2.2 (fun gq c' _ hgq => set_keep hcc (by decide) gq c' hgq)
          | false =>
            have HSS := hide hS
            clear hS
            go_wp2_with (at_builtin; refine wpList_append_lies _ (by rfl) _ _ _ (by rfl) w3.heap.size 4 i0 _ 1 1 Tryz.underlying41 hi hz0 hz1 hz2 rfl (by decide) u15 j (knownTo ls c j) (by rfl) ((unhide HK5).alloc _) ⟨w5.heap.size, 0, none⟩ 1 1 [.bool false] (by rfl) (by rfl) (World.news_of_block (cs := #[.bool false]) (t := 4) (fr := (0, 0)) (heap_alloc_new w5 _)) (by simp [Value.oneCell']) (by decide) (by unfold maxLen; omega) (by omega) (by simp; omega) (w5.heap.size + 1) (by simp) ?_; intro gg cap w7 hown7 hgrow7 hat7 hlt7; have AB := hide (cu_push (unhide HB5b) (unhide HW5) (unhide HK5) hgrow7 hown7); obtain ⟨g7, ao7, ic7, ⟨p0, p1, p2⟩, pbl, ppl, pits⟩ := ((unhide HR3).below (unhide AB).1).all; obtain ⟨iv7, rfl, pic, pim, pivl, q0, q1, q2⟩ := pits j hlt; rw [← unhide HIT] at q0 q1 q2; rw [unhide HTT] at q1; clear ppl pits q0 q2 pim hown7 hgrow7 hat7 hlt7)
            go_roundg (its.length - (j + 1))
            case measure => have := A.out.1; omega
            case rel =>
              refine ⟨j + 1, by omega, rfl, by go_num, ?_, (unhide AB).1, ?_, ?_⟩
              · rw [unhide HIS, unhide HTT]; simp
              · rw [unhide HMX, unhide HTT, if_neg (by simp), unhide HSS, if_neg (by simp)]; exact (unhide AB).2.1
              · rw [unhide HKN, unhide HSS]; exact (unhide AB).2.2
    · have hje : j = its.length := by omega
      have hjc : ¬ (j : Int) < its.length := by omega
      obtain ⟨W', hW'⟩ : ∃ W', W' = mixTo its ls c V W its.length := ⟨_, rfl⟩
      have hWl : W'.length = n := by rw [hW', mixTo_len, unhide HWL]
      have hVb := (fits_bd (unhide HVF)).2
      have hWb : ∀ x ∈ W', -1000000 ≤ x ∧ x ≤ 1000000 := by rw [hW']; exact mixTo_bd hVb (fits_bd (unhide HWF)).2 _
      have HWF' : Hid (fitsP its W' = true) := hide (fits_of_bd (by rw [hWl]; exact unhide HN) hWb)
      have HIN : Hid (∀ (i : Nat) (h : i < its.length), its[i].isT = false → seenB ((labsP its).getD i 0) c = true → V.getD (inputsTo its i) 0 = W'.getD (inputsTo its i) 0) := hide (fun i h hT hs => by
        rw [hW', mixTo_get h hT (by rw [unhide HLS]; exact hs) (by
          rw [unhide HWL, unhide HN]
          have h1 := inputsTo_succ h
          rw [hT, if_neg (by simp)] at h1
          have h2 := inputsTo_mono its (i := i + 1) (j := its.length) (by omega)
          unfold inputsP
          omega) its.length h (Nat.le_refl _)])
      have HWO : Hid (wr.ownsRow w3.heap.size 3 1 (.slice wo n wc) n (ints W')) := hide (by have := A.out.2.2.1; rw [hje, ← hW'] at this; exact this)
      have HKO : Hid (wr.ownsRow w3.heap.size 4 1 u15 its.length (knownTo ls c its.length)) := hide (by have := A.out.2.2.2; rw [hje] at this; exact this)
      have HBR := hide (below_after (unhide HB3) hb)
      have HVR := hide ((unhide HV3).below hb)
      have HRR := hide ((unhide HR3).below hb)
      have HTR := hide (tab_below hb (unhide HT3))
      have HWL' := hide hWl
      obtain ⟨ko, kc, hkf⟩ := (SlAt.of_owns (unhide HKO)).form
      subst hkf
      clear hje hb hits hW' hWl hVb hWb
      go_wp2_with fail
      refine (eval_any g its _ V _ (unhide HPL) (by rw [unhide HVL]; exact unhide HVR)).mono ?_
      rintro e wa (⟨hf, _⟩ | ⟨hf, lo, lc, rfl, hba, hlo⟩)
      · rw [unhide HVF] at hf; cases hf
      have HBA := hide (below_after (unhide HBR) hba)
      have HVA := hide ((unhide HVR).below hba)
      have HRA := hide ((unhide HRR).below hba)
      have HTA := hide (tab_below hba (unhide HTR))
      have HWA := hide (owns_below (unhide HWO) hba)
      have HKA := hide (owns_below (unhide HKO) hba)
      have HLA := hide hlo
      clear hf hba hlo c0 c1 c2 hbl
      obtain ⟨ga, aa, ica, ⟨c0, c1, c2⟩, hbl, hpl, _⟩ := (unhide HRA).all
      have HPLA := hide hpl
      clear hpl
      go_wp2_with fail
      refine (eval_any ga its _ W' _ (unhide HPLA) (by rw [unhide HWL']; exact SlAt.of_owns (unhide HWA))).mono ?_
      rintro e wb (⟨hf, _⟩ | ⟨hf, mo, mc, rfl, hbb, hmo⟩)
      · rw [unhide HWF'] at hf; cases hf
      have HBB := hide (below_after (unhide HBA) hbb)
      have HVB := hide ((unhide HVA).below hbb)
      have HRB := hide ((unhide HRA).below hbb)
      have HTB := hide (tab_below hbb (unhide HTA))
      have HWB := hide (owns_below (unhide HWA) hbb)
      have HKB := hide (owns_below (unhide HKA) hbb)
      have HLB := hide (owns_below (unhide HLA) hbb)
      have HMB := hide hmo
      clear hf hbb hmo c0 c1 c2 hbl
      obtain ⟨gb, ab, icb, ⟨c0, c1, c2⟩, hbl, hpl, _⟩ := (unhide HRB).all
      have HPLB := hide hpl
      clear hpl
      have hLV := tabsTo_count (its := its) (rs := resP its V) its.length (Nat.le_refl _)
      have hLW := tabsTo_count (its := its) (rs := resP its W') its.length (Nat.le_refl _)
      obtain ⟨L, hL⟩ : ∃ L, L = its.length - n := ⟨_, rfl⟩
      have hnl : n ≤ its.length := by have := unhide HN; unfold inputsP at this; omega
      have hL1 : (tabsP its V).length = L := by unfold tabsP; have := unhide HN; unfold inputsP at this; omega
      have hL2 : (tabsP its W').length = L := by unfold tabsP; have := unhide HN; unfold inputsP at this; omega
      rw [hL1] at HLB ⊢
      rw [hL2] at HMB ⊢
      have hLi : (L : Int) = (its.length : Int) - (n : Int) := by omega
      have HLI := hide hLi
      rw [← unhide HN] at c2
      clear hLV hLW hL hLi
      have hne : ((L : Int) != (its.length : Int) - (n : Int)) = false := by rw [unhide HLI]; simp
      go_wp2_with fail
      go_quiet (fail)
      go_wp2_with fail
      clear c0 c1 c2 hbl
      go_loopg [24, 25] its.length (fun g kv iv wr => ∃ j : Nat, j ≤ its.length ∧ g = its.length - j ∧ iv = .int .i64 (j : Int) ∧ kv = .int .i64 ((tabsTo its (resP its V) j).length : Int) ∧ Below wb.heap.size wb wr ∧ ∀ (i : Nat) (h : i < its.length), i < j → its[i].isT = true → its[i].drops ≠ 0 → seenB ((labsP its).getD i 0) c = true → ((resP its V).getD i (PVal.zero, [])).1 = ((resP its W').getD i (PVal.zero, [])).1)
      case atStart => exact ⟨0, by omega, rfl, rfl, by simp [tabsTo], by first | exact Below.refl _ _ | exact ⟨rfl, rfl, rfl, Nat.le_refl _, fun _ _ => rfl⟩, fun i h hi => by omega⟩
      case round =>
        obtain ⟨q, hq, hg, rfl, rfl, hb, hall⟩ := hrel
        have B : Aside (gk = its.length - q ∧ Below wb.heap.size wb wr ∧ ∀ (i : Nat) (h : i < its.length), i < q → its[i].isT = true → its[i].drops ≠ 0 → seenB ((labsP its).getD i 0) c = true → ((resP its V).getD i (PVal.zero, [])).1 = ((resP its W').getD i (PVal.zero, [])).1) := ⟨hg, hb, hall⟩
        obtain ⟨g9, a9, ic9, ⟨c0, c1, c2⟩, hbl, hpl, hits⟩ := ((unhide HRB).below hb).all
        have HPL9 := hide hpl
        have htc := tabsTo_count (its := its) (rs := resP its V) q hq
        have htcW := tabsTo_count (its := its) (rs := resP its W') q hq
        clear hg hpl hall
        by_cases hlt : q < its.length
        · obtain ⟨iv, rfl, hic, him, hivl, k0, k1, k2⟩ := hits q hlt
          have hqc : (q : Int) < its.length := by omega
          clear hits him k0
          cases hT : its[q].isT with
          | false =>
            rw [hT] at k1
            have HST : Hid ((tabsTo its (resP its V) (q + 1)).length = (tabsTo its (resP its V) q).length) := hide (by rw [tabsTo, getD_at its noItem hlt, hT, if_neg (by simp), List.append_nil])
            have HTT := hide hT
            clear hT hb k2
            go_wp2_with fail
            go_roundg (its.length - (q + 1))
            case measure => have := B.out.1; omega
            case rel =>
              refine ⟨q + 1, by omega, rfl, by go_num, by rw [unhide HST], B.out.2.1, fun i h hi hT2 hd hs => ?_⟩
              by_cases he : i = q
              · subst he; rw [unhide HTT] at hT2; cases hT2
              · exact B.out.2.2 i h (by omega) hT2 hd hs
          | true =>
            rw [hT] at k1
            have HST : Hid ((tabsTo its (resP its V) (q + 1)).length = (tabsTo its (resP its V) q).length + 1) := hide (by rw [tabsTo, getD_at its noItem hlt, hT, if_pos rfl, List.length_append]; rfl)
            have hV1 := tabsTo_at (rs := resP its V) hlt hT
            have hW1 := tabsTo_at (rs := resP its W') hlt hT
            obtain ⟨tc, htce⟩ : ∃ tc, tc = (tabsTo its (resP its V) q).length := ⟨_, rfl⟩
            have htce2 : (tabsTo its (resP its W') q).length = tc := by omega
            rw [← htce] at hV1 HST ⊢
            rw [htce2] at hW1
            have htl1 : tc < (tabsP its V).length := (List.getElem?_eq_some_iff.1 hV1).1
            have htl2 : tc < (tabsP its W').length := (List.getElem?_eq_some_iff.1 hW1).1
            have hgV : (tabsP its V)[tc] = ((resP its V).getD q (PVal.zero, [])).1 := (List.getElem?_eq_some_iff.1 hV1).2
            have hgW : (tabsP its W')[tc] = ((resP its W').getD q (PVal.zero, [])).1 := (List.getElem?_eq_some_iff.1 hW1).2
            have htL : tc < L := by omega
            have htLc : (tc : Int) < L := by omega
            have htc12 : (tc : Int) ≤ 12 := by omega
            clear htce
            rcases (SlAt.of_owns (unhide HLB)).below hb with ⟨h0, _⟩ | ⟨gl, lcap, hlv, _, _, hlgl, hlx⟩
            · omega
            rcases (SlAt.of_owns (unhide HMB)).below hb with ⟨h0, _⟩ | ⟨gm, mcap, hmv, _, _, hmgl, hmx⟩
            · omega
            rcases (SlAt.of_owns (unhide HKB)).below hb with ⟨h0, _⟩ | ⟨gk2, kcap, hkv, _, _, hkgl, hkx⟩
            · omega
            simp only [Value.slice.injEq] at hlv hmv hkv
            obtain ⟨rfl, _, rfl⟩ := hlv
            obtain ⟨rfl, _, rfl⟩ := hmv
            obtain ⟨rfl, _, rfl⟩ := hkv
            have l0 : wr.cell? ⟨gl, tc * 2, none⟩ = some (.int .i64 ((resP its V).getD q (PVal.zero, [])).1.kind) := by
              rw [hlx _ (by omega)]
              have := flat_at vcells 2 (fun _ => rfl) (tabsP its V) tc 0 htl1 (by omega)
              rw [Nat.add_zero] at this
              rw [this, hgV]; rfl
            have l1 : wr.cell? ⟨gl, tc * 2 + 1, none⟩ = some (.int .i64 ((resP its V).getD q (PVal.zero, [])).1.n) := by
              rw [hlx _ (by omega)]
              have := flat_at vcells 2 (fun _ => rfl) (tabsP its V) tc 1 htl1 (by omega)
              rw [this, hgV]; rfl
            have m0 : wr.cell? ⟨gm, tc * 2, none⟩ = some (.int .i64 ((resP its W').getD q (PVal.zero, [])).1.kind) := by
              rw [hmx _ (by omega)]
              have := flat_at vcells 2 (fun _ => rfl) (tabsP its W') tc 0 htl2 (by omega)
              rw [Nat.add_zero] at this
              rw [this, hgW]; rfl
            have m1 : wr.cell? ⟨gm, tc * 2 + 1, none⟩ = some (.int .i64 ((resP its W').getD q (PVal.zero, [])).1.n) := by
              rw [hmx _ (by omega)]
              have := flat_at vcells 2 (fun _ => rfl) (tabsP its W') tc 1 htl2 (by omega)
              rw [this, hgW]; rfl
            have kn : wr.cell? ⟨gk2, q, none⟩ = some (.bool (seenB ((labsP its).getD q 0) c)) := by
              rw [hkx _ (by omega), unhide HLS]
              simp [knownTo, hlt]
            have HALL := hide (fun (heq : ((resP its V).getD q (PVal.zero, [])).1 = ((resP its W').getD q (PVal.zero, [])).1 ∨ its[q].drops = 0 ∨ seenB ((labsP its).getD q 0) c = false) => show (∀ (i : Nat) (h : i < its.length), i < q + 1 → its[i].isT = true → its[i].drops ≠ 0 → seenB ((labsP its).getD i 0) c = true → ((resP its V).getD i (PVal.zero, [])).1 = ((resP its W').getD i (PVal.zero, [])).1) from fun i h hi hT2 hd hs => by
              by_cases he : i = q
              · subst he
                rcases heq with h9 | h9 | h9
                · exact h9
                · exact absurd h9 hd
                · rw [h9] at hs; cases hs
              · exact B.out.2.2 i h (by omega) hT2 hd hs)
            have HBW := hide (below_after (unhide HBB) hb)
            generalize hx : ((resP its V).getD q (PVal.zero, [])).1 = x at *
            generalize hy : ((resP its W').getD q (PVal.zero, [])).1 = y at *
            obtain ⟨x0, x1⟩ := x
            obtain ⟨y0, y1⟩ := y
            simp only at l0 l1 m0 m1
            have HX := hide hx
            have HY := hide hy
            clear hx hy hT hb hlx hmx hkx hV1 hW1 hgV hgW htl1 htl2 htce2 htc htcW
            by_cases hdr : its[q].drops = 0
            · have hdb : decide (its[q].drops ≠ 0) = false := by simpa using hdr
              rw [hdb] at k2
              have HF := hide (unhide HALL (Or.inr (Or.inl hdr)))
              clear hdb hdr
              go_wp2_with fail
              go_quiet (fail)
              go_wp2_with fail
              go_roundg (its.length - (q + 1))
              case measure => have := B.out.1; omega
              case rel => exact ⟨q + 1, by omega, rfl, by go_num, by rw [unhide HST]; go_num, by first | exact B.out.2.1 | exact below_drewN B.out.2.1 _, unhide HF⟩
            · have hdb : decide (its[q].drops ≠ 0) = true := by simpa using hdr
              rw [hdb] at k2
              clear hdb
              cases hsn : seenB ((labsP its).getD q 0) c with
              | false =>
                rw [hsn] at kn
                have HF := hide (unhide HALL (Or.inr (Or.inr hsn)))
                clear hdr hsn
                go_wp2_with fail
                go_quiet (fail)
                go_wp2_with fail
                go_roundg (its.length - (q + 1))
                case measure => have := B.out.1; omega
                case rel => exact ⟨q + 1, by omega, rfl, by go_num, by rw [unhide HST]; go_num, by first | exact B.out.2.1 | exact below_drewN B.out.2.1 _, unhide HF⟩
              | true =>
                rw [hsn] at kn
                clear hsn
                by_cases hxy : x0 = y0 ∧ x1 = y1
                · have HF := hide (unhide HALL (Or.inl (by rw [hxy.1, hxy.2])))
                  have hxb : (x0 == y0 && x1 == y1) = true := by simp [hxy]
                  have hei := value_eqIn x0 x1 y0 y1
                  rw [hxb] at hei
                  clear hdr hxy hxb
                  go_wp2_with fail
                  go_quiet (fail)
                  go_wp2_with fail
                  go_roundg (its.length - (q + 1))
                  case measure => have := B.out.1; omega
                  case rel => exact ⟨q + 1, by omega, rfl, by go_num, by rw [unhide HST]; go_num, by first | exact B.out.2.1 | exact below_drewN B.out.2.1 _, unhide HF⟩
                · have hxb : (x0 == y0 && x1 == y1) = false := by
                    rw [Bool.eq_false_iff]
                    intro h9
                    simp at h9
                    exact hxy h9
                  have hei := value_eqIn x0 x1 y0 y1
                  rw [hxb] at hei
                  clear hdr hxy hxb
                  go_wp2_with fail
                  go_quiet (fail)
                  go_wp2_with fail
                  go_ret
                  exact ⟨rfl, by first | exact unhide HBW | exact below_drewN (unhide HBW) _⟩
        · have hqe : q = its.length := by omega
          have hqc : ¬ (q : Int) < its.length := by omega
          have HTAB : Hid (∀ (i : Nat) (h : i < its.length), its[i].isT = true → its[i].drops ≠ 0 → seenB ((labsP its).getD i 0) c = true → ((resP its V).getD i (PVal.zero, [])).1 = ((resP its W').getD i (PVal.zero, [])).1) := hide (fun i h hT hd hs => B.out.2.2 i h (by omega) hT hd hs)
          have HEQ := hide (curtain_told (unhide HOK) hc7 (unhide HIN) (unhide HTAB))
          have HE1 : Hid (explR its (c : Int) V = (explainP its c V, 0)) := hide (by unfold explR; rw [if_pos ⟨⟨by omega, by omega⟩, unhide HVF⟩, Int.toNat_natCast])
          have HE2 : Hid (explR its (c : Int) W' = (explainP its c V, 0)) := hide (by unfold explR; rw [if_pos ⟨⟨by omega, by omega⟩, unhide HWF'⟩, Int.toNat_natCast, unhide HEQ])
          have HB9 := hide (below_after (unhide HBB) hb)
          have HT9 := hide (tab_below hb (unhide HTB))
          have HV9 := hide ((unhide HVB).below hb)
          have HW9 := hide (SlAt.below (SlAt.of_owns (unhide HWB)) hb)
          have HR9 := hide ((unhide HRB).below hb)
          clear hqe hb hits htc htcW
          go_wp2_with fail
          refine (explain_any g9 its _ _ V _ (unhide HPL9) (by rw [unhide HVL]; exact unhide HV9) (unhide HT9)).mono ?_
          rintro e wd ⟨rfl, hbd⟩
          rw [unhide HE1]
          have HBD := hide (below_after (unhide HB9) hbd)
          have HTD := hide (tab_below hbd (unhide HT9))
          have HWD := hide ((unhide HW9).below hbd)
          clear c0 c1 c2 hbl
          obtain ⟨gd, ad, icd, ⟨c0, c1, c2⟩, hbl, hpl, _⟩ := ((unhide HR9).below hbd).all
          have HPLD := hide hpl
          clear hpl hbd
          simp only
          go_wp2_with fail
          refine (explain_any gd its _ _ W' _ (unhide HPLD) (by rw [unhide HWL']; exact unhide HWD) (unhide HTD)).mono ?_
          rintro e we ⟨rfl, hbe⟩
          rw [unhide HE2]
          have HBE := hide (below_after (unhide HBD) hbe)
          clear hbe
          simp only
          go_wp2_with fail
          go_ret
          exact ⟨ret_bool (by simp), unhide HBE⟩
end Go.Proofs.YthnggjaecngbiaaGreatDoor
