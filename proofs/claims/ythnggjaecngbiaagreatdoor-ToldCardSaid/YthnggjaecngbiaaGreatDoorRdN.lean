import Derived.Test.YthnggjaecngbiaaGreatDoorRdL
namespace Go.Proofs.YthnggjaecngbiaaGreatDoor
open Go.RowKit

theorem own7 {w : World} {base : Nat} {e T : TypeId} {size : Nat} {v : Value} {n N : Nat} {xs : List Value} {c : Array Value} (h : w.ownsRow base e size v n xs) (hN : w.heap[N]? = some (.cells c T)) (hne : e ≠ T) {v0 v1 v2 v3 v4 v5 v6 : Value} :
    (((((((w.setCell ⟨N, 0, none⟩ v0).setCell ⟨N, 1, none⟩ v1).setCell ⟨N, 2, none⟩ v2).setCell ⟨N, 3, none⟩ v3).setCell ⟨N, 4, none⟩ v4).setCell ⟨N, 5, none⟩ v5).setCell ⟨N, 6, none⟩ v6).ownsRow base e size v n xs := by
  have hb := owns_ne h hN hne
  exact ownsRow_setCell_other (ownsRow_setCell_other (ownsRow_setCell_other (ownsRow_setCell_other (ownsRow_setCell_other (ownsRow_setCell_other (ownsRow_setCell_other h (a := ⟨N, 0, none⟩) hb v0) (a := ⟨N, 1, none⟩) hb v1) (a := ⟨N, 2, none⟩) hb v2) (a := ⟨N, 3, none⟩) hb v3) (a := ⟨N, 4, none⟩) hb v4) (a := ⟨N, 5, none⟩) hb v5) (a := ⟨N, 6, none⟩) hb v6

theorem Tryz.info_rule : (Tryz.prog.info? 160).map (fun i => (i.zero, i.size, i.bytes)) = some (some (.agg #[.slice none 0 0, .int .i64 0]), 2, 32) := by kernel_rfl

set_option maxRecDepth 100000 in
set_option maxHeartbeats 6400000 in
theorem table_any (b : Nat) (s : ByteArray) (k : Nat) (w : World) (hr : Rd 152 b s k w) (hs : s.size ≤ 1000) (hk : k ≤ s.size) :
    Calls Tryz.prog 123 #[.pointer (some ⟨b, 0, none⟩)] w fun e w' => (∃ p, tableR s k = .inl p ∧ e = .panicked [{ v := .iface 110 (.agg #[.int .i64 (p : Int)]), recovered := false }] ∧ ∃ m, Moved 152 b s m w w') ∨ (∃ it q, tableR s k = .inr (it, q) ∧ it.isT = true ∧ ∃ cv rv vs, e = .returned (iv it cv rv) ∧ Moved 152 b s q w w' ∧ w'.ownsRow w.heap.size 9 1 cv it.cols.length (it.cols.map Value.string) ∧ RulesAt w.heap.size w' rv vs it.rules) := by
  have hlt := hr.lt
  obtain ⟨i0, hi, hz0, hz1, hz2⟩ := info_parts Tryz.info_rule
  have HR := hide hr
  clear hr
  go_enter Tryz.func123, Tryz.ntmps123
  go_wp2_with fail
  cases hn : nameR s k with
  | inl p =>
    have HF : Hid (tableR s k = .inl p) := hide (by unfold tableR; rw [hn])
    refine (name_no _ _ _ _ ((unhide HR).alloc _) hs hk hn).mono ?_
    rintro e w3 ⟨rfl, m, hm3⟩
    have HO := hide hm3
    clear hm3 hn
    go_wp2
    exact ⟨rfl, Or.inl ⟨_, HF.out, rfl, _, (unhide HO).of_alloc⟩⟩
  | inr xq =>
    obtain ⟨x, q⟩ := xq
    have hnb := nameR_bd hk hn
    refine (name_yes _ _ _ _ ((unhide HR).alloc _) hs hk hn).mono ?_
    rintro e w3 ⟨rfl, hm3⟩
    have HO := hide hm3
    have hsz : w.heap.size < w3.heap.size := by have := hm3.size; simp at this; omega
    have HD : Hid (tableR s k = match policyR s q with | .inl p => .inl p | .inr (c, q) => match columnsR s q with | .inl p => .inl p | .inr (xs, q) => dropsR s q ⟨x, true, 0, c, xs, 0, []⟩) := hide (by unfold tableR; rw [hn]; rfl)
    clear hm3 hn
    go_wp2_with fail
    have HV0 : Hid (ItemInv b s q w (w3.alloc (.cells #[.string x, .bool true, .int .i64 0, .int .u8 0, .slice none 0 0, .int .i64 0, .slice none 0 0] 119)) w.heap.size w3.heap.size ⟨x, true, 0, 0, [], 0, []⟩ noSl noSl) := by
      refine ⟨(unhide HO).of_alloc.alloc _, hlt, Nat.le_refl _, by omega, by omega, ?_, ?_⟩
      · rw [Below.heap_alloc _ _ _ (by omega)]
        exact (unhide HO).kept hlt
      · exact alloc_last w3 _
    generalize hw4 : (w3.alloc (.cells #[.string x, .bool true, .int .i64 0, .int .u8 0, .slice none 0 0, .int .i64 0, .slice none 0 0] 119)) = w4 at *
    generalize w3.heap.size = N1 at *
    clear hw4 HO HR hsz
    refine (policy_any _ _ _ _ (unhide HV0).mv.rd hs hnb.2.1).mono ?_
    rintro e w5 (⟨p, hd, rfl, m5, hm5⟩ | ⟨pc, q2, hd, rfl, hm5⟩)
    · have HF : Hid (tableR s k = .inl p) := hide (by rw [unhide HD, hd])
      have HS := hide ((unhide HV0).mv.trans hm5)
      clear hd hm5
      go_wp2
      exact ⟨rfl, Or.inl ⟨_, HF.out, rfl, _, unhide HS⟩⟩
    have hpb := policyR_bd hnb.2.1 hd
    have HE : Hid (tableR s k = match columnsR s q2 with | .inl p => .inl p | .inr (xs, q) => dropsR s q ⟨x, true, 0, pc, xs, 0, []⟩) := hide (by rw [unhide HD, hd])
    have HV1 := hide ((unhide HV0).moved hm5)
    clear hd hm5 HV0 HD
    obtain ⟨⟨c0, c1, c2, c3, c4, c5, c6⟩, f0, f1, f2, f3, f4, f5, f6⟩ := cells7 (unhide HV1).r1
    go_wp2_with fail
    clear c0 c1 c2 c3 c4 c5 c6 f0 f1 f2 f3 f4 f5 f6
    have HV2 := hide ((unhide HV1).set (it' := ⟨x, true, 0, pc, [], 0, []⟩) (cv' := noSl) (rv' := noSl) 3 (.int .u8 pc) rfl)
    clear HV1
    generalize hw6 : w5.setCell ⟨N1, 3, none⟩ (.int .u8 pc) = w6 at *
    clear hw6
    refine (columns_any _ _ _ _ (unhide HV2).mv.rd hs hpb.1.2).mono ?_
    rintro e w7 (⟨p, hd, rfl, m7, hm7⟩ | ⟨xs, q3, hd, cv, rfl, hm7, ho7⟩)
    · have HF : Hid (tableR s k = .inl p) := hide (by rw [unhide HE, hd])
      have HS := hide ((unhide HV2).mv.trans hm7)
      clear hd hm7
      go_wp2
      exact ⟨rfl, Or.inl ⟨_, HF.out, rfl, _, unhide HS⟩⟩
    have hcb := columnsR_bd hpb.1.2 hd
    obtain ⟨co, cn, cc, rfl⟩ := owns_form ho7
    have HG3 : Hid (tableR s k = dropsR s q3 ⟨x, true, 0, pc, xs, 0, []⟩) := hide (by rw [unhide HE, hd])
    have HV3 := hide ((unhide HV2).moved hm7)
    have HC3 := hide (owns_base ho7 (unhide HV2).mv.size)
    clear hd hm7 ho7 HE HV2
    obtain ⟨⟨c0, c1, c2, c3, c4, c5, c6⟩, f0, f1, f2, f3, f4, f5, f6⟩ := cells7 (unhide HV3).r1
    go_wp2_with fail
    clear c0 c1 c2 c3 c4 c5 c6 f0 f1 f2 f3 f4 f5 f6
    have HV4 : Hid (TabInv b s q3 w (w7.setCell ⟨N1, 4, none⟩ (.slice co cn cc)) w.heap.size N1 ⟨x, true, 0, pc, xs, 0, []⟩ (.slice co cn cc) noSl []) :=
      ⟨(unhide HV3).set 4 (.slice co cn cc) rfl, owns_keep (unhide HC3) (fun g c _ hg => set_keep (unhide HV3).r1 (by decide) g c hg), RulesAt.nil _ _⟩
    generalize hw8 : w7.setCell ⟨N1, 4, none⟩ (.slice co cn cc) = w8 at *
    clear hw8 HV3 HC3
    have hp3 := nextP_le hcb.2
    cases h1 : inR s (nextP s q3) 92 92 with
    | false =>
      have HG : Hid (tableR s k = bodyR s (nextP s q3) ⟨x, true, 0, pc, xs, 0, []⟩) := hide (by rw [unhide HG3]; unfold dropsR; rw [if_neg (by rw [h1]; simp)])
      refine (take_no _ _ q3 _ _ (unhide HV4).ii.mv.rd hs hcb.2 (by simp) h1).mono ?_
      rintro e w9 ⟨rfl, hm9⟩
      have HV := hide ((unhide HV4).moved hm9)
      clear hm9 h1 HV4 HG3
      go_wp2_with fail
      cases h9 : inR s (nextP s (nextP s q3)) 123 123 with
      | false =>
        have HF : Hid (tableR s k = .inl (nextP s (nextP s q3))) := hide (by rw [unhide HG]; unfold bodyR; rw [if_neg (by rw [h9]; simp)])
        refine (must_no _ _ (nextP s q3) _ _ (unhide HV).ii.mv.rd hs hp3 (by simp) h9).mono ?_
        rintro e w9 ⟨rfl, hm9⟩
        have HS := hide ((unhide HV).ii.mv.trans hm9)
        clear hm9 h9
        go_wp2
        exact ⟨rfl, Or.inl ⟨_, HF.out, rfl, _, unhide HS⟩⟩
      | true =>
        have hlt9 := inR_lt (by omega) h9
        have HB : Hid (tableR s k = rulesR s (s.size + 1 - (nextP s (nextP s q3) + 1)) (nextP s (nextP s q3) + 1) ⟨x, true, 0, pc, xs, 0, []⟩) := hide (by rw [unhide HG]; unfold bodyR; rw [if_pos h9])
        refine (must_yes _ _ (nextP s q3) _ _ (unhide HV).ii.mv.rd hs hp3 (by simp) h9).mono ?_
        rintro e w9 ⟨rfl, hm9⟩
        have HW := hide ((unhide HV).moved hm9)
        have hP0 : nextP s (nextP s q3) + 1 ≤ s.size := by omega
        clear hm9 h9 HV hlt9
        generalize nextP s (nextP s q3) + 1 = P0 at *
        go_wp2_with fail
        go_loopg [] (s.size - P0) (fun g wr => ∃ m f it rv vs, g = s.size - m ∧ s.size + 1 - m ≤ f ∧ m ≤ s.size ∧ it.rules.length ≤ m ∧ it.isT = true ∧ tableR s k = rulesR s f m it ∧ TabInv b s m w wr w.heap.size N1 it (.slice co cn cc) rv vs)
        case atStart => exact ⟨P0, _, _, _, _, rfl, Nat.le_refl _, hP0, by simp, rfl, HB.out, unhide HW⟩
        case round =>
          obtain ⟨m, f, it, rv0, vs, hg, hf, hm, hlen, hisT, hcol, hinv⟩ := hrel
          clear HW HB
          have hpm := nextP_le hm
          have hge := nextP_ge s m
          obtain ⟨g', rfl⟩ : ∃ g', f = g' + 1 := ⟨f - 1, by omega⟩
          obtain ⟨ro, rn, rc, rfl⟩ := owns_form hinv.ru.2.1
          have A : Aside (gk = s.size - m ∧ it.isT = true ∧ tableR s k = rulesR s (g' + 1) m it ∧ TabInv b s m w wr w.heap.size N1 it (.slice co cn cc) (.slice ro rn rc) vs) := ⟨hg, hisT, hcol, hinv⟩
          clear hg hcol hinv hisT
          cases h2 : inR s (nextP s m) 125 125 with
          | true =>
            have HF : Hid (tableR s k = .inr (it, nextP s m + 1)) := hide (by rw [A.out.2.2.1, rulesR, if_pos h2])
            have H2 := hide h2
            clear h2
            go_wp2_with (go_at_call 149; refine (take_yes _ _ m _ _ (by exact A.out.2.2.2.ii.mv.rd) hs hm (by simp) (by exact unhide H2)).mono ?_; rintro e w2 ⟨rfl, hm2⟩; have HN := hide (A.out.2.2.2.moved hm2); clear hm2; obtain ⟨⟨c0, c1, c2, c3, c4, c5, c6⟩, f0, f1, f2, f3, f4, f5, f6⟩ := cells7 (unhide HN).ii.r1; obtain ⟨⟨d0, d1, d2, d3, d4, d5, d6⟩, g0, g1, g2, g3, g4, g5, g6⟩ := cells7 (unhide HN).ii.r0; simp only [noSl, noItem] at d0 d1 d2 d3 d4 d5 d6)
            refine bodyPost_ret (v := iv it (.slice co cn cc) (.slice ro rn rc)) ?_ rfl ?_
            · simp [results, Tryz.results123, go_sem, iv, icells, d0, d1, d2, d3, d4, d5, d6]
            refine Or.inr ⟨it, _, HF.out, A.out.2.1, _, _, vs, rfl, (unhide HN).ii.mv.put7 (Nat.le_refl _) hlt _ _ _ _ _ _ _, ?_, ?_⟩
            · exact own7 (unhide HN).co (unhide HN).ii.r0 (by decide)
            · exact ⟨(unhide HN).ru.1, own7 (unhide HN).ru.2.1 (unhide HN).ii.r0 (by decide), fun x hx => own7 ((unhide HN).ru.2.2 x hx) (unhide HN).ii.r0 (by decide)⟩
          | false =>
            have hid := nextP_idem hm
            have HI := hide hid
            have H2 := hide h2
            clear h2 hid
            go_wp2_with (go_at_call 149; refine (take_no _ _ m _ _ (by exact A.out.2.2.2.ii.mv.rd) hs hm (by simp) (by exact unhide H2)).mono ?_; rintro e w2 ⟨rfl, hm2⟩; have HN := hide (A.out.2.2.2.moved hm2); clear hm2)
            obtain ⟨hg, hisT, hcol, _⟩ := A.out
            rw [rulesR, if_neg (by rw [unhide H2]; simp)] at hcol
            obtain ⟨⟨c0, c1, c2, c3, c4, c5, c6⟩, f0, f1, f2, f3, f4, f5, f6⟩ := cells7 (unhide HN).ii.r1
            clear c0 c1 c2 c3 c4 c5 f0 f1 f2 f3 f4 f5
            cases hn : ruleR s (nextP s m) with
            | inl p =>
              rw [hn] at hcol
              have HF := hide hcol
              have HT := hide hn
              clear hcol hn hg hisT
              refine wp_region_any (by kernel_rfl) ?_
              try (change wpAny _ _ _ _ _ _ _ (World.drew _))
              refine wpAny_take (i := 0) (v := ?vv0) rfl (by kernel_rfl) (by kernel_rfl) (by kernel_rfl) (fun _ _ _ h => h) (Or.inl ⟨by rfl, ?hy0⟩) ?rest0
              case hy0 => intro w; go_simp; try with_reducible rfl
              case rest0 =>
              refine wpAny_take (i := 2) (v := ?vv2) rfl (by kernel_rfl) (by kernel_rfl) (by kernel_rfl) (fun _ _ _ h => h) (Or.inl ⟨by rfl, ?hy2⟩) ?rest2
              case hy2 => intro w; go_simp; try with_reducible rfl
              case rest2 =>
              refine wpAny_ready (rs := [1, 3]) (by kernel_rfl) (by simp) ?_
              refine AllReady.cons rfl (fun K hK => ?_) ?_
              · go_simp
                refine hK _ _ ?_
                clear hK K
                refine wpAny_ready (rs := [3]) (by kernel_rfl) (by simp) ?_
                refine AllReady.cons rfl (fun K hK => ?_) AllReady.nil
                go_simp
                refine (rule_no _ _ _ _ (by exact (unhide HN).ii.mv.rd) hs hpm (unhide HT)).mono ?_
                rintro e w6 ⟨rfl, m6, hm6⟩
                have HP := hide ((unhide HN).ii.mv.trans (Moved.of_drew hm6))
                clear hm6
                go_wp2
                exact ⟨rfl, Or.inl ⟨_, HF.out, rfl, _, unhide HP⟩⟩
              · refine AllReady.cons rfl (fun K hK => ?_) AllReady.nil
                go_simp
                refine (rule_no _ _ _ _ (by exact (unhide HN).ii.mv.rd) hs hpm (unhide HT)).mono ?_
                rintro e w6 ⟨rfl, m6, hm6⟩
                have HP := hide ((unhide HN).ii.mv.trans (Moved.of_drew hm6))
                clear hm6
                go_wp2
                exact ⟨rfl, Or.inl ⟨_, HF.out, rfl, _, unhide HP⟩⟩
            | inr rq =>
              obtain ⟨⟨rts, rnum⟩, q'⟩ := rq
              rw [hn] at hcol
              have hnb := ruleR_bd hpm hn
              have HF := hide hcol
              have HT := hide hn
              have HG : Hid (gk = s.size - m ∧ it.isT = true) := ⟨hg, hisT⟩
              clear hcol hn hg hisT
              go_region_law (first
                | (refine step_append_lies _ (by rfl) _ _ _ (by rfl) w.heap.size 160 i0 _ 2 32 Tryz.underlying117 hi hz0 hz1 hz2 rfl (by decide) (.slice ro rn rc) it.rules.length (rcells vs it.rules) (by rfl) ((unhide HP).ru.2.1.alloc _) ⟨w6.heap.size, 0, none⟩ 1 1 [.slice ao sn sc, .int .i64 rnum] (by rfl) (by rfl) (World.news_of_block (cs := #[.slice ao sn sc, .int .i64 rnum]) (t := 160) (fr := (0, 0)) (heap_alloc_new w6 _)) (by simp [Value.oneCell']) (by decide) (by unfold maxLen; omega) (by omega) (by have := (unhide HP).ii.mv.size; simp; omega) (w6.heap.size + 1) (by simp) ?_; intro gg cap w7 hown7 hgrow7 hat7 hlt7; have HQ := hide ((unhide HP).pushed (r := ⟨rts, rnum⟩) (unhide HU) hgrow7 hown7 rfl); obtain ⟨hd1, hd2⟩ := (unhide HP).mid hgrow7; clear hown7 hgrow7 hat7 hlt7)
                | (go_simp; go_at_call 154; refine (rule_yes _ _ _ _ (by exact (unhide HN).ii.mv.rd) hs hpm (unhide HT)).mono ?_; rintro e w6 ⟨ao, sn, sc, rfl, hm6, hu6⟩; have HP := hide ((unhide HN).moved (Moved.of_drew hm6)); have HU := hide (owns_base hu6 (by have := (unhide HN).ii.mv.size; simpa using this)); clear hm6 hu6; have hN1 := lt_of_block (unhide HP).ii.r1; obtain ⟨⟨d0, d1, d2, d3, d4, d5, d6⟩, g0, g1, g2, g3, g4, g5, g6⟩ := cells7 (unhide HP).ii.r1; clear d0 d1 d2 d3 d4 d5 g0 g1 g2 g3 g4 g5; simp only [rv]))
              all_goals
                go_wp2
                go_roundg (s.size - q')
                case measure => have := HG.out.1; omega
                case rel => exact ⟨q', g', { it with rules := it.rules ++ [⟨rts, rnum⟩] }, _, _, rfl, by omega, by omega, by simp; omega, HG.out.2, HF.out, unhide HQ⟩
    | true =>
      have hlt1 := inR_lt (by omega) h1
      have HG4 : Hid (tableR s k = match marksR s (nextP s q3 + 1) with | .inl p => .inl p | .inr (d, q) => bodyR s q ⟨x, true, 0, pc, xs, d, []⟩) := hide (by rw [unhide HG3]; unfold dropsR; rw [if_pos h1]; rfl)
      refine (take_yes _ _ q3 _ _ (unhide HV4).ii.mv.rd hs hcb.2 (by simp) h1).mono ?_
      rintro e w9 ⟨rfl, hm9⟩
      have HV5 := hide ((unhide HV4).moved hm9)
      clear hm9 h1 HV4 HG3
      go_wp2_with fail
      refine (marks_any _ _ _ _ (unhide HV5).ii.mv.rd hs (by omega)).mono ?_
      rintro e wa (⟨p, hd, rfl, ma, hma⟩ | ⟨mv, q4, hd, rfl, hma⟩)
      · have HF : Hid (tableR s k = .inl p) := hide (by rw [unhide HG4, hd])
        have HS := hide ((unhide HV5).ii.mv.trans hma)
        clear hd hma
        go_wp2
        exact ⟨rfl, Or.inl ⟨_, HF.out, rfl, _, unhide HS⟩⟩
      · have HG : Hid (tableR s k = bodyR s q4 ⟨x, true, 0, pc, xs, mv, []⟩) := hide (by rw [unhide HG4, hd])
        have hrb := marksR_bd (by omega) hd
        have HV6 := hide ((unhide HV5).moved hma)
        clear hd hma HV5 HG4
        obtain ⟨⟨c0, c1, c2, c3, c4, c5, c6⟩, f0, f1, f2, f3, f4, f5, f6⟩ := cells7 (unhide HV6).ii.r1
        go_wp2_with fail
        have HV := hide ((unhide HV6).set (it' := ⟨x, true, 0, pc, xs, mv, []⟩) 5 (.int .i64 (mv : Int)) rfl rfl rfl)
        clear c0 c1 c2 c3 c4 c5 c6 f0 f1 f2 f3 f4 f5 f6 HV6
        generalize hwb : wa.setCell ⟨N1, 5, none⟩ (.int .i64 (mv : Int)) = wb at *
        clear hwb
        cases h9 : inR s (nextP s (q4)) 123 123 with
        | false =>
          have HF : Hid (tableR s k = .inl (nextP s (q4))) := hide (by rw [unhide HG]; unfold bodyR; rw [if_neg (by rw [h9]; simp)])
          refine (must_no _ _ (q4) _ _ (unhide HV).ii.mv.rd hs hrb.2 (by simp) h9).mono ?_
          rintro e w9 ⟨rfl, hm9⟩
          have HS := hide ((unhide HV).ii.mv.trans hm9)
          clear hm9 h9
          go_wp2
          exact ⟨rfl, Or.inl ⟨_, HF.out, rfl, _, unhide HS⟩⟩
        | true =>
          have hlt9 := inR_lt (by omega) h9
          have HB : Hid (tableR s k = rulesR s (s.size + 1 - (nextP s (q4) + 1)) (nextP s (q4) + 1) ⟨x, true, 0, pc, xs, mv, []⟩) := hide (by rw [unhide HG]; unfold bodyR; rw [if_pos h9])
          refine (must_yes _ _ (q4) _ _ (unhide HV).ii.mv.rd hs hrb.2 (by simp) h9).mono ?_
          rintro e w9 ⟨rfl, hm9⟩
          have HW := hide ((unhide HV).moved hm9)
          have hP0 : nextP s (q4) + 1 ≤ s.size := by omega
          clear hm9 h9 HV hlt9
          generalize nextP s (q4) + 1 = P0 at *
          go_wp2_with fail
          go_loopg [] (s.size - P0) (fun g wr => ∃ m f it rv vs, g = s.size - m ∧ s.size + 1 - m ≤ f ∧ m ≤ s.size ∧ it.rules.length ≤ m ∧ it.isT = true ∧ tableR s k = rulesR s f m it ∧ TabInv b s m w wr w.heap.size N1 it (.slice co cn cc) rv vs)
          case atStart => exact ⟨P0, _, _, _, _, rfl, Nat.le_refl _, hP0, by simp, rfl, HB.out, unhide HW⟩
          case round =>
            obtain ⟨m, f, it, rv0, vs, hg, hf, hm, hlen, hisT, hcol, hinv⟩ := hrel
            clear HW HB
            have hpm := nextP_le hm
            have hge := nextP_ge s m
            obtain ⟨g', rfl⟩ : ∃ g', f = g' + 1 := ⟨f - 1, by omega⟩
            obtain ⟨ro, rn, rc, rfl⟩ := owns_form hinv.ru.2.1
            have A : Aside (gk = s.size - m ∧ it.isT = true ∧ tableR s k = rulesR s (g' + 1) m it ∧ TabInv b s m w wr w.heap.size N1 it (.slice co cn cc) (.slice ro rn rc) vs) := ⟨hg, hisT, hcol, hinv⟩
            clear hg hcol hinv hisT
            cases h2 : inR s (nextP s m) 125 125 with
            | true =>
              have HF : Hid (tableR s k = .inr (it, nextP s m + 1)) := hide (by rw [A.out.2.2.1, rulesR, if_pos h2])
              have H2 := hide h2
              clear h2
              go_wp2_with (go_at_call 149; refine (take_yes _ _ m _ _ (by exact A.out.2.2.2.ii.mv.rd) hs hm (by simp) (by exact unhide H2)).mono ?_; rintro e w2 ⟨rfl, hm2⟩; have HN := hide (A.out.2.2.2.moved hm2); clear hm2; obtain ⟨⟨c0, c1, c2, c3, c4, c5, c6⟩, f0, f1, f2, f3, f4, f5, f6⟩ := cells7 (unhide HN).ii.r1; obtain ⟨⟨d0, d1, d2, d3, d4, d5, d6⟩, g0, g1, g2, g3, g4, g5, g6⟩ := cells7 (unhide HN).ii.r0; simp only [noSl, noItem] at d0 d1 d2 d3 d4 d5 d6)
              refine bodyPost_ret (v := iv it (.slice co cn cc) (.slice ro rn rc)) ?_ rfl ?_
              · simp [results, Tryz.results123, go_sem, iv, icells, d0, d1, d2, d3, d4, d5, d6]
              refine Or.inr ⟨it, _, HF.out, A.out.2.1, _, _, vs, rfl, (unhide HN).ii.mv.put7 (Nat.le_refl _) hlt _ _ _ _ _ _ _, ?_, ?_⟩
              · exact own7 (unhide HN).co (unhide HN).ii.r0 (by decide)
              · exact ⟨(unhide HN).ru.1, own7 (unhide HN).ru.2.1 (unhide HN).ii.r0 (by decide), fun x hx => own7 ((unhide HN).ru.2.2 x hx) (unhide HN).ii.r0 (by decide)⟩
            | false =>
              have hid := nextP_idem hm
              have HI := hide hid
              have H2 := hide h2
              clear h2 hid
              go_wp2_with (go_at_call 149; refine (take_no _ _ m _ _ (by exact A.out.2.2.2.ii.mv.rd) hs hm (by simp) (by exact unhide H2)).mono ?_; rintro e w2 ⟨rfl, hm2⟩; have HN := hide (A.out.2.2.2.moved hm2); clear hm2)
              obtain ⟨hg, hisT, hcol, _⟩ := A.out
              rw [rulesR, if_neg (by rw [unhide H2]; simp)] at hcol
              obtain ⟨⟨c0, c1, c2, c3, c4, c5, c6⟩, f0, f1, f2, f3, f4, f5, f6⟩ := cells7 (unhide HN).ii.r1
              clear c0 c1 c2 c3 c4 c5 f0 f1 f2 f3 f4 f5
              cases hn : ruleR s (nextP s m) with
              | inl p =>
                rw [hn] at hcol
                have HF := hide hcol
                have HT := hide hn
                clear hcol hn hg hisT
                refine wp_region_any (by kernel_rfl) ?_
                try (change wpAny _ _ _ _ _ _ _ (World.drew _))
                refine wpAny_take (i := 0) (v := ?vv0) rfl (by kernel_rfl) (by kernel_rfl) (by kernel_rfl) (fun _ _ _ h => h) (Or.inl ⟨by rfl, ?hy0⟩) ?rest0
                case hy0 => intro w; go_simp; try with_reducible rfl
                case rest0 =>
                refine wpAny_take (i := 2) (v := ?vv2) rfl (by kernel_rfl) (by kernel_rfl) (by kernel_rfl) (fun _ _ _ h => h) (Or.inl ⟨by rfl, ?hy2⟩) ?rest2
                case hy2 => intro w; go_simp; try with_reducible rfl
                case rest2 =>
                refine wpAny_ready (rs := [1, 3]) (by kernel_rfl) (by simp) ?_
                refine AllReady.cons rfl (fun K hK => ?_) ?_
                · go_simp
                  refine hK _ _ ?_
                  clear hK K
                  refine wpAny_ready (rs := [3]) (by kernel_rfl) (by simp) ?_
                  refine AllReady.cons rfl (fun K hK => ?_) AllReady.nil
                  go_simp
                  refine (rule_no _ _ _ _ (by exact (unhide HN).ii.mv.rd) hs hpm (unhide HT)).mono ?_
                  rintro e w6 ⟨rfl, m6, hm6⟩
                  have HP := hide ((unhide HN).ii.mv.trans (Moved.of_drew hm6))
                  clear hm6
                  go_wp2
                  exact ⟨rfl, Or.inl ⟨_, HF.out, rfl, _, unhide HP⟩⟩
                · refine AllReady.cons rfl (fun K hK => ?_) AllReady.nil
                  go_simp
                  refine (rule_no _ _ _ _ (by exact (unhide HN).ii.mv.rd) hs hpm (unhide HT)).mono ?_
                  rintro e w6 ⟨rfl, m6, hm6⟩
                  have HP := hide ((unhide HN).ii.mv.trans (Moved.of_drew hm6))
                  clear hm6
                  go_wp2
                  exact ⟨rfl, Or.inl ⟨_, HF.out, rfl, _, unhide HP⟩⟩
              | inr rq =>
                obtain ⟨⟨rts, rnum⟩, q'⟩ := rq
                rw [hn] at hcol
                have hnb := ruleR_bd hpm hn
                have HF := hide hcol
                have HT := hide hn
                have HG : Hid (gk = s.size - m ∧ it.isT = true) := ⟨hg, hisT⟩
                clear hcol hn hg hisT
                go_region_law (first
                  | (refine step_append_lies _ (by rfl) _ _ _ (by rfl) w.heap.size 160 i0 _ 2 32 Tryz.underlying117 hi hz0 hz1 hz2 rfl (by decide) (.slice ro rn rc) it.rules.length (rcells vs it.rules) (by rfl) ((unhide HP).ru.2.1.alloc _) ⟨w6.heap.size, 0, none⟩ 1 1 [.slice ao sn sc, .int .i64 rnum] (by rfl) (by rfl) (World.news_of_block (cs := #[.slice ao sn sc, .int .i64 rnum]) (t := 160) (fr := (0, 0)) (heap_alloc_new w6 _)) (by simp [Value.oneCell']) (by decide) (by unfold maxLen; omega) (by omega) (by have := (unhide HP).ii.mv.size; simp; omega) (w6.heap.size + 1) (by simp) ?_; intro gg cap w7 hown7 hgrow7 hat7 hlt7; have HQ := hide ((unhide HP).pushed (r := ⟨rts, rnum⟩) (unhide HU) hgrow7 hown7 rfl); obtain ⟨hd1, hd2⟩ := (unhide HP).mid hgrow7; clear hown7 hgrow7 hat7 hlt7)
                  | (go_simp; go_at_call 154; refine (rule_yes _ _ _ _ (by exact (unhide HN).ii.mv.rd) hs hpm (unhide HT)).mono ?_; rintro e w6 ⟨ao, sn, sc, rfl, hm6, hu6⟩; have HP := hide ((unhide HN).moved (Moved.of_drew hm6)); have HU := hide (owns_base hu6 (by have := (unhide HN).ii.mv.size; simpa using this)); clear hm6 hu6; have hN1 := lt_of_block (unhide HP).ii.r1; obtain ⟨⟨d0, d1, d2, d3, d4, d5, d6⟩, g0, g1, g2, g3, g4, g5, g6⟩ := cells7 (unhide HP).ii.r1; clear d0 d1 d2 d3 d4 d5 g0 g1 g2 g3 g4 g5; simp only [rv]))
                all_goals
                  go_wp2
                  go_roundg (s.size - q')
                  case measure => have := HG.out.1; omega
                  case rel => exact ⟨q', g', { it with rules := it.rules ++ [⟨rts, rnum⟩] }, _, _, rfl, by omega, by omega, by simp; omega, HG.out.2, HF.out, unhide HQ⟩

end Go.Proofs.YthnggjaecngbiaaGreatDoor
