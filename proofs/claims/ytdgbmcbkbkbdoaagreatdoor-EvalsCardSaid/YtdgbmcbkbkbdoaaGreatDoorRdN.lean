import Derived.Test.YtdgbmcbkbkbdoaaGreatDoorRdK
namespace Go.Proofs.YtdgbmcbkbkbdoaaGreatDoor
open Go.RowKit
theorem own7 {w : World} {base : Nat} {e T : TypeId} {size : Nat} {v : Value} {n N : Nat} {xs : List Value} {c : Array Value} (h : w.ownsRow base e size v n xs) (hN : w.heap[N]? = some (.cells c T)) (hne : e ≠ T) {v0 v1 v2 v3 v4 v5 v6 : Value} :
  (((((((w.setCell ⟨N, 0, none⟩ v0).setCell ⟨N, 1, none⟩ v1).setCell ⟨N, 2, none⟩ v2).setCell ⟨N, 3, none⟩ v3).setCell ⟨N, 4, none⟩ v4).setCell ⟨N, 5, none⟩ v5).setCell ⟨N, 6, none⟩ v6).ownsRow base e size v n xs := by
 have hb := owns_ne h hN hne
 exact ownsRow_setCell_other (ownsRow_setCell_other (ownsRow_setCell_other (ownsRow_setCell_other (ownsRow_setCell_other (ownsRow_setCell_other (ownsRow_setCell_other h (a := ⟨N, 0, none⟩) hb v0) (a := ⟨N, 1, none⟩) hb v1) (a := ⟨N, 2, none⟩) hb v2) (a := ⟨N, 3, none⟩) hb v3) (a := ⟨N, 4, none⟩) hb v4) (a := ⟨N, 5, none⟩) hb v5) (a := ⟨N, 6, none⟩) hb v6
theorem Tryz.info_rule : (Tryz.prog.info? 155).map (fun i => (i.zero, i.size, i.bytes)) = some (some (.agg #[.slice none 0 0, .int .i64 0]), 2, 32) := by kernel_rfl
set_option maxRecDepth 100000 in
set_option maxHeartbeats 6400000 in
theorem table_any (b : Nat) (s : ByteArray) (k : Nat) (w : World) (hr : Rd 147 b s k w) (hs : s.size ≤ 1000) (hk : k ≤ s.size) :
  Calls Tryz.prog 111 #[.pointer (some ⟨b, 0, none⟩)] w fun e w' => (∃ p, tableR s k = .inl p ∧ e = .panicked [{ v := .iface 105 (.agg #[.int .i64 (p : Int)]), recovered := false }] ∧ ∃ m, Moved 147 b s m w w') ∨ (∃ it q, tableR s k = .inr (it, q) ∧ it.isT = true ∧ ∃ cv rv vs, e = .returned (iv it cv rv) ∧ Moved 147 b s q w w' ∧ w'.ownsRow w.heap.size 9 1 cv it.cols.length (it.cols.map Value.string) ∧ RulesAt w.heap.size w' rv vs it.rules) := by
 have hlt := hr.lt
 obtain ⟨i0, hi, hz0, hz1, hz2⟩ := info_parts Tryz.info_rule
 have HR := hide hr
 clear hr
 go_enter Tryz.func111, Tryz.ntmps111
 go_wp2_with fail
 cases hn : nameR s k with
 | inl p =>
  have HF : Hid (tableR s k = .inl p) := hide (by unfold tableR; rw [hn])
  refine (name_no _ _ _ _ ((uh HR).alloc _) hs hk hn).mono ?_
  rintro e w3 ⟨rfl, m, hm3⟩
  have HO := hide hm3
  clear hm3 hn
  go_wp2
  exact ⟨rfl, Or.inl ⟨_, HF.out, rfl, _, (uh HO).of_alloc⟩⟩
 | inr xq =>
  obtain ⟨x, q⟩ := xq
  have hnb := nameR_bd hk hn
  refine (name_yes _ _ _ _ ((uh HR).alloc _) hs hk hn).mono ?_
  rintro e w3 ⟨rfl, hm3⟩
  have HO := hide hm3
  have hsz : w.heap.size < w3.heap.size := by have := hm3.size; simp at this; omega
  have HD : Hid (tableR s k = match policyR s q with | .inl p => .inl p | .inr (c, q) => match columnsR s q with | .inl p => .inl p | .inr (xs, q) => dropsR s q ⟨x, true, 0, c, xs, 0, []⟩) := hide (by unfold tableR; rw [hn]; rfl)
  clear hm3 hn
  go_wp2_with fail
  have HV0 : Hid (ItemInv b s q w (w3.alloc (.cells #[.string x, .bool true, .int .i64 0, .int .u8 0, .slice none 0 0, .int .i64 0, .slice none 0 0] 114)) w.heap.size w3.heap.size ⟨x, true, 0, 0, [], 0, []⟩ noSl noSl) := by
   refine ⟨(uh HO).of_alloc.alloc _, hlt, Nat.le_refl _, by omega, by omega, ?_, ?_⟩
   ·rw [Below.heap_alloc _ _ _ (by omega)]
    exact (uh HO).kept hlt
   ·exact alloc_last w3 _
  generalize hw4 : (w3.alloc (.cells #[.string x, .bool true, .int .i64 0, .int .u8 0, .slice none 0 0, .int .i64 0, .slice none 0 0] 114)) = w4 at *
  generalize w3.heap.size = N1 at *
  clear hw4 HO HR hsz
  refine (policy_any _ _ _ _ (uh HV0).mv.rd hs hnb.2.1).mono ?_
  rintro e w5 (⟨p, hd, rfl, m5, hm5⟩ | ⟨pc, q2, hd, rfl, hm5⟩)
  ·have HF : Hid (tableR s k = .inl p) := hide (by rw [uh HD, hd])
   have HS := hide ((uh HV0).mv.trans hm5)
   clear hd hm5
   go_wp2
   exact ⟨rfl, Or.inl ⟨_, HF.out, rfl, _, uh HS⟩⟩
  have hpb := policyR_bd hnb.2.1 hd
  have HE : Hid (tableR s k = match columnsR s q2 with | .inl p => .inl p | .inr (xs, q) => dropsR s q ⟨x, true, 0, pc, xs, 0, []⟩) := hide (by rw [uh HD, hd])
  have HV1 := hide ((uh HV0).moved hm5)
  clear hd hm5 HV0 HD
  obtain ⟨⟨c0, c1, c2, c3, c4, c5, c6⟩, f0, f1, f2, f3, f4, f5, f6⟩ := cells7 (uh HV1).r1
  go_wp2_with fail
  clear c0 c1 c2 c3 c4 c5 c6 f0 f1 f2 f3 f4 f5 f6
  have HV2 := hide ((uh HV1).set (it' := ⟨x, true, 0, pc, [], 0, []⟩) (cv' := noSl) (rv' := noSl) 3 (.int .u8 pc) rfl)
  clear HV1
  generalize hw6 : w5.setCell ⟨N1, 3, none⟩ (.int .u8 pc) = w6 at *
  clear hw6
  refine (columns_any _ _ _ _ (uh HV2).mv.rd hs hpb.1.2).mono ?_
  rintro e w7 (⟨p, hd, rfl, m7, hm7⟩ | ⟨xs, q3, hd, cv, rfl, hm7, ho7⟩)
  ·have HF : Hid (tableR s k = .inl p) := hide (by rw [uh HE, hd])
   have HS := hide ((uh HV2).mv.trans hm7)
   clear hd hm7
   go_wp2
   exact ⟨rfl, Or.inl ⟨_, HF.out, rfl, _, uh HS⟩⟩
  have hcb := columnsR_bd hpb.1.2 hd
  obtain ⟨co, cn, cc, rfl⟩ := owns_form ho7
  have HG3 : Hid (tableR s k = dropsR s q3 ⟨x, true, 0, pc, xs, 0, []⟩) := hide (by rw [uh HE, hd])
  have HV3 := hide ((uh HV2).moved hm7)
  have HC3 := hide (owns_base ho7 (uh HV2).mv.size)
  clear hd hm7 ho7 HE HV2
  obtain ⟨⟨c0, c1, c2, c3, c4, c5, c6⟩, f0, f1, f2, f3, f4, f5, f6⟩ := cells7 (uh HV3).r1
  go_wp2_with fail
  clear c0 c1 c2 c3 c4 c5 c6 f0 f1 f2 f3 f4 f5 f6
  have HV4 : Hid (TabInv b s q3 w (w7.setCell ⟨N1, 4, none⟩ (.slice co cn cc)) w.heap.size N1 ⟨x, true, 0, pc, xs, 0, []⟩ (.slice co cn cc) noSl []) :=
   ⟨(uh HV3).set 4 (.slice co cn cc) rfl, owns_keep (uh HC3) (fun g c _ hg => set_keep (uh HV3).r1 (by decide) g c hg), RulesAt.nil _ _⟩
  generalize hw8 : w7.setCell ⟨N1, 4, none⟩ (.slice co cn cc) = w8 at *
  clear hw8 HV3 HC3
  have hp3 := nextP_le hcb.2
  cases h1 : inR s (nextP s q3) 92 92 with
  | false =>
   have HG : Hid (tableR s k = bodyR s (nextP s q3) ⟨x, true, 0, pc, xs, 0, []⟩) := hide (by rw [uh HG3]; unfold dropsR; rw [if_neg (by rw [h1]; simp)])
   refine (take_no _ _ q3 _ _ (uh HV4).ii.mv.rd hs hcb.2 (by simp) h1).mono ?_
   rintro e w9 ⟨rfl, hm9⟩
   have HV := hide ((uh HV4).moved hm9)
   clear hm9 h1 HV4 HG3
   go_wp2_with fail
   cases h9 : inR s (nextP s (nextP s q3)) 123 123 with
   | false =>
    have HF : Hid (tableR s k = .inl (nextP s (nextP s q3))) := hide (by rw [uh HG]; unfold bodyR; rw [if_neg (by rw [h9]; simp)])
    refine (must_no _ _ (nextP s q3) _ _ (uh HV).ii.mv.rd hs hp3 (by simp) h9).mono ?_
    rintro e w9 ⟨rfl, hm9⟩
    have HS := hide ((uh HV).ii.mv.trans hm9)
    clear hm9 h9
    go_wp2
    exact ⟨rfl, Or.inl ⟨_, HF.out, rfl, _, uh HS⟩⟩
   | true =>
    have hlt9 := inR_lt (by omega) h9
    have HB : Hid (tableR s k = rulesR s (s.size + 1 - (nextP s (nextP s q3) + 1)) (nextP s (nextP s q3) + 1) ⟨x, true, 0, pc, xs, 0, []⟩) := hide (by rw [uh HG]; unfold bodyR; rw [if_pos h9])
    refine (must_yes _ _ (nextP s q3) _ _ (uh HV).ii.mv.rd hs hp3 (by simp) h9).mono ?_
    rintro e w9 ⟨rfl, hm9⟩
    have HW := hide ((uh HV).moved hm9)
    have hP0 : nextP s (nextP s q3) + 1 ≤ s.size := by omega
    clear hm9 h9 HV hlt9
    generalize nextP s (nextP s q3) + 1 = P0 at *
    go_wp2_with fail
    go_loopg [] (s.size - P0) (fun g wr => ∃ m f it rv vs, g = s.size - m ∧ s.size + 1 - m ≤ f ∧ m ≤ s.size ∧ it.rules.length ≤ m ∧ it.isT = true ∧ tableR s k = rulesR s f m it ∧ TabInv b s m w wr w.heap.size N1 it (.slice co cn cc) rv vs)
    case atStart => exact ⟨P0, _, _, _, _, rfl, Nat.le_refl _, hP0, by simp, rfl, HB.out, uh HW⟩
    case round =>
     obtain ⟨m, f, it, rv0, vs, hg, hf, hm, hlen, hisT, hcol, hinv⟩ := hrel
     clear HW HB
     have hpm := nextP_le hm
     have hge := nextP_ge s m
     obtain ⟨g', rfl⟩ : ∃ g', f = g' + 1 := ⟨f - 1, by omega⟩
     obtain ⟨ro, rn, rc, rfl⟩ := owns_form hinv.ru.2.1
     have A : Aside (gk = s.size - m ∧ it.isT = true ∧ tableR s k = rulesR s (g' + 1) m it ∧ TabInv b s m w wr w.heap.size N1 it (.slice co cn cc) (.slice ro rn rc) vs) := ⟨hg, hisT, hcol, hinv⟩
     clear hg hcol hinv hisT
     cases h2 : inR s (nextP s m) 125 125 with
     | true =>
      have HF : Hid (tableR s k = .inr (it, nextP s m + 1)) := hide (by rw [A.out.2.2.1, rulesR, if_pos h2])
      have H2 := hide h2
      clear h2
      go_wp2_with (go_at_call 133; refine (take_yes _ _ m _ _ (by exact A.out.2.2.2.ii.mv.rd) hs hm (by simp) (by exact uh H2)).mono ?_; rintro e w2 ⟨rfl, hm2⟩; have HN := hide (A.out.2.2.2.moved hm2); clear hm2; obtain ⟨⟨c0, c1, c2, c3, c4, c5, c6⟩, f0, f1, f2, f3, f4, f5, f6⟩ := cells7 (uh HN).ii.r1; obtain ⟨⟨d0, d1, d2, d3, d4, d5, d6⟩, g0, g1, g2, g3, g4, g5, g6⟩ := cells7 (uh HN).ii.r0; simp only [noSl, noItem] at d0 d1 d2 d3 d4 d5 d6)
      refine bodyPost_ret (v := iv it (.slice co cn cc) (.slice ro rn rc)) ?_ rfl ?_
      ·simp [results, Tryz.results111, go_sem, iv, icells, d0, d1, d2, d3, d4, d5, d6]
      refine Or.inr ⟨it, _, HF.out, A.out.2.1, _, _, vs, rfl, (uh HN).ii.mv.put7 (Nat.le_refl _) hlt _ _ _ _ _ _ _, ?_, ?_⟩
      ·exact own7 (uh HN).co (uh HN).ii.r0 (by decide)
      ·exact ⟨(uh HN).ru.1, own7 (uh HN).ru.2.1 (uh HN).ii.r0 (by decide), fun x hx => own7 ((uh HN).ru.2.2 x hx) (uh HN).ii.r0 (by decide)⟩
     | false =>
      have hid := nextP_idem hm
      have HI := hide hid
      have H2 := hide h2
      clear h2 hid
      go_wp2_with (go_at_call 133; refine (take_no _ _ m _ _ (by exact A.out.2.2.2.ii.mv.rd) hs hm (by simp) (by exact uh H2)).mono ?_; rintro e w2 ⟨rfl, hm2⟩; have HN := hide (A.out.2.2.2.moved hm2); clear hm2)
      obtain ⟨hg, hisT, hcol, _⟩ := A.out
      rw [rulesR, if_neg (by rw [uh H2]; simp)] at hcol
      obtain ⟨⟨c0, c1, c2, c3, c4, c5, c6⟩, f0, f1, f2, f3, f4, f5, f6⟩ := cells7 (uh HN).ii.r1
      clear c0 c1 c2 c3 c4 c5 f0 f1 f2 f3 f4 f5
      cases hn : ruleR s (nextP s m) with
      | inl p =>
       rw [hn] at hcol
       have HF := hide hcol
       have HT := hide hn
       clear hcol hn hg hisT
       refine wp_region_any (by kernel_rfl) ?_
       try (change wpAny _ _ _ _ _ _ _ (World.drew _))
       refine wpAny_take (i := 0) (v := ?vv0) rfl (by kernel_rfl) (by kernel_rfl) (by kernel_rfl) (fun _ _ _ h => h) (Or.inl ⟨by rfl, ?hy0⟩) ?rest0
       case hy0 => intro w; go_simp; try with_reducible rfl
       case rest0 =>
       refine wpAny_take (i := 2) (v := ?vv2) rfl (by kernel_rfl) (by kernel_rfl) (by kernel_rfl) (fun _ _ _ h => h) (Or.inl ⟨by rfl, ?hy2⟩) ?rest2
       case hy2 => intro w; go_simp; try with_reducible rfl
       case rest2 =>
       refine wpAny_ready (rs := [1, 3]) (by kernel_rfl) (by simp) ?_
       refine AllReady.cons rfl (fun K hK => ?_) ?_
       ·go_simp
        refine hK _ _ ?_
        clear hK K
        refine wpAny_ready (rs := [3]) (by kernel_rfl) (by simp) ?_
        refine AllReady.cons rfl (fun K hK => ?_) AllReady.nil
        go_simp
        refine (rule_no _ _ _ _ (by exact (uh HN).ii.mv.rd) hs hpm (uh HT)).mono ?_
        rintro e w6 ⟨rfl, m6, hm6⟩
        have HP := hide ((uh HN).ii.mv.trans (Moved.of_drew hm6))
        clear hm6
        go_wp2
        exact ⟨rfl, Or.inl ⟨_, HF.out, rfl, _, uh HP⟩⟩
       ·refine AllReady.cons rfl (fun K hK => ?_) AllReady.nil
        go_simp
        refine (rule_no _ _ _ _ (by exact (uh HN).ii.mv.rd) hs hpm (uh HT)).mono ?_
        rintro e w6 ⟨rfl, m6, hm6⟩
        have HP := hide ((uh HN).ii.mv.trans (Moved.of_drew hm6))
        clear hm6
        go_wp2
        exact ⟨rfl, Or.inl ⟨_, HF.out, rfl, _, uh HP⟩⟩
      | inr rq =>
       obtain ⟨⟨rts, rnum⟩, q'⟩ := rq
       rw [hn] at hcol
       have hnb := ruleR_bd hpm hn
       have HF := hide hcol
       have HT := hide hn
       have HG : Hid (gk = s.size - m ∧ it.isT = true) := ⟨hg, hisT⟩
       clear hcol hn hg hisT
       go_region_law (first
        | (refine step_append_lies _ (by rfl) _ _ _ (by rfl) w.heap.size 155 i0 _ 2 32 Tryz.underlying112 hi hz0 hz1 hz2 rfl (by decide) (.slice ro rn rc) it.rules.length (rcells vs it.rules) (by rfl) ((uh HP).ru.2.1.alloc _) ⟨w6.heap.size, 0, none⟩ 1 1 [.slice ao sn sc, .int .i64 rnum] (by rfl) (by rfl) (World.news_of_block (cs := #[.slice ao sn sc, .int .i64 rnum]) (t := 155) (fr := (0, 0)) (heap_alloc_new w6 _)) (by simp [Value.oneCell']) (by decide) (by unfold maxLen; omega) (by omega) (by have := (uh HP).ii.mv.size; simp; omega) (w6.heap.size + 1) (by simp) ?_; intro gg cap w7 hown7 hgrow7 hat7 hlt7; have HQ := hide ((uh HP).pushed (r := ⟨rts, rnum⟩) (uh HU) hgrow7 hown7 rfl); obtain ⟨hd1, hd2⟩ := (uh HP).mid hgrow7; clear hown7 hgrow7 hat7 hlt7)
        | (go_simp; go_at_call 138; refine (rule_yes _ _ _ _ (by exact (uh HN).ii.mv.rd) hs hpm (uh HT)).mono ?_; rintro e w6 ⟨ao, sn, sc, rfl, hm6, hu6⟩; have HP := hide ((uh HN).moved (Moved.of_drew hm6)); have HU := hide (owns_base hu6 (by have := (uh HN).ii.mv.size; simpa using this)); clear hm6 hu6; have hN1 := lt_of_block (uh HP).ii.r1; obtain ⟨⟨d0, d1, d2, d3, d4, d5, d6⟩, g0, g1, g2, g3, g4, g5, g6⟩ := cells7 (uh HP).ii.r1; clear d0 d1 d2 d3 d4 d5 g0 g1 g2 g3 g4 g5; simp only [rv]))
       all_goals
        go_wp2
        go_roundg (s.size - q')
        case measure => have := HG.out.1; omega
        case rel => exact ⟨q', g', { it with rules := it.rules ++ [⟨rts, rnum⟩] }, _, _, rfl, by omega, by omega, by simp; omega, HG.out.2, HF.out, uh HQ⟩
  | true =>
   have hlt1 := inR_lt (by omega) h1
   have HG4 : Hid (tableR s k = match marksR s (nextP s q3 + 1) with | .inl p => .inl p | .inr (d, q) => bodyR s q ⟨x, true, 0, pc, xs, d, []⟩) := hide (by rw [uh HG3]; unfold dropsR; rw [if_pos h1]; rfl)
   refine (take_yes _ _ q3 _ _ (uh HV4).ii.mv.rd hs hcb.2 (by simp) h1).mono ?_
   rintro e w9 ⟨rfl, hm9⟩
   have HV5 := hide ((uh HV4).moved hm9)
   clear hm9 h1 HV4 HG3
   go_wp2_with fail
   refine (marks_any _ _ _ _ (uh HV5).ii.mv.rd hs (by omega)).mono ?_
   rintro e wa (⟨p, hd, rfl, ma, hma⟩ | ⟨mv, q4, hd, rfl, hma⟩)
   ·have HF : Hid (tableR s k = .inl p) := hide (by rw [uh HG4, hd])
    have HS := hide ((uh HV5).ii.mv.trans hma)
    clear hd hma
    go_wp2
    exact ⟨rfl, Or.inl ⟨_, HF.out, rfl, _, uh HS⟩⟩
   ·have HG : Hid (tableR s k = bodyR s q4 ⟨x, true, 0, pc, xs, mv, []⟩) := hide (by rw [uh HG4, hd])
    have hrb := marksR_bd (by omega) hd
    have HV6 := hide ((uh HV5).moved hma)
    clear hd hma HV5 HG4
    obtain ⟨⟨c0, c1, c2, c3, c4, c5, c6⟩, f0, f1, f2, f3, f4, f5, f6⟩ := cells7 (uh HV6).ii.r1
    go_wp2_with fail
    have HV := hide ((uh HV6).set (it' := ⟨x, true, 0, pc, xs, mv, []⟩) 5 (.int .i64 (mv : Int)) rfl rfl rfl)
    clear c0 c1 c2 c3 c4 c5 c6 f0 f1 f2 f3 f4 f5 f6 HV6
    generalize hwb : wa.setCell ⟨N1, 5, none⟩ (.int .i64 (mv : Int)) = wb at *
    clear hwb
    cases h9 : inR s (nextP s (q4)) 123 123 with
    | false =>
     have HF : Hid (tableR s k = .inl (nextP s (q4))) := hide (by rw [uh HG]; unfold bodyR; rw [if_neg (by rw [h9]; simp)])
     refine (must_no _ _ (q4) _ _ (uh HV).ii.mv.rd hs hrb.2 (by simp) h9).mono ?_
     rintro e w9 ⟨rfl, hm9⟩
     have HS := hide ((uh HV).ii.mv.trans hm9)
     clear hm9 h9
     go_wp2
     exact ⟨rfl, Or.inl ⟨_, HF.out, rfl, _, uh HS⟩⟩
    | true =>
     have hlt9 := inR_lt (by omega) h9
     have HB : Hid (tableR s k = rulesR s (s.size + 1 - (nextP s (q4) + 1)) (nextP s (q4) + 1) ⟨x, true, 0, pc, xs, mv, []⟩) := hide (by rw [uh HG]; unfold bodyR; rw [if_pos h9])
     refine (must_yes _ _ (q4) _ _ (uh HV).ii.mv.rd hs hrb.2 (by simp) h9).mono ?_
     rintro e w9 ⟨rfl, hm9⟩
     have HW := hide ((uh HV).moved hm9)
     have hP0 : nextP s (q4) + 1 ≤ s.size := by omega
     clear hm9 h9 HV hlt9
     generalize nextP s (q4) + 1 = P0 at *
     go_wp2_with fail
     go_loopg [] (s.size - P0) (fun g wr => ∃ m f it rv vs, g = s.size - m ∧ s.size + 1 - m ≤ f ∧ m ≤ s.size ∧ it.rules.length ≤ m ∧ it.isT = true ∧ tableR s k = rulesR s f m it ∧ TabInv b s m w wr w.heap.size N1 it (.slice co cn cc) rv vs)
     case atStart => exact ⟨P0, _, _, _, _, rfl, Nat.le_refl _, hP0, by simp, rfl, HB.out, uh HW⟩
     case round =>
      obtain ⟨m, f, it, rv0, vs, hg, hf, hm, hlen, hisT, hcol, hinv⟩ := hrel
      clear HW HB
      have hpm := nextP_le hm
      have hge := nextP_ge s m
      obtain ⟨g', rfl⟩ : ∃ g', f = g' + 1 := ⟨f - 1, by omega⟩
      obtain ⟨ro, rn, rc, rfl⟩ := owns_form hinv.ru.2.1
      have A : Aside (gk = s.size - m ∧ it.isT = true ∧ tableR s k = rulesR s (g' + 1) m it ∧ TabInv b s m w wr w.heap.size N1 it (.slice co cn cc) (.slice ro rn rc) vs) := ⟨hg, hisT, hcol, hinv⟩
      clear hg hcol hinv hisT
      cases h2 : inR s (nextP s m) 125 125 with
      | true =>
       have HF : Hid (tableR s k = .inr (it, nextP s m + 1)) := hide (by rw [A.out.2.2.1, rulesR, if_pos h2])
       have H2 := hide h2
       clear h2
       go_wp2_with (go_at_call 133; refine (take_yes _ _ m _ _ (by exact A.out.2.2.2.ii.mv.rd) hs hm (by simp) (by exact uh H2)).mono ?_; rintro e w2 ⟨rfl, hm2⟩; have HN := hide (A.out.2.2.2.moved hm2); clear hm2; obtain ⟨⟨c0, c1, c2, c3, c4, c5, c6⟩, f0, f1, f2, f3, f4, f5, f6⟩ := cells7 (uh HN).ii.r1; obtain ⟨⟨d0, d1, d2, d3, d4, d5, d6⟩, g0, g1, g2, g3, g4, g5, g6⟩ := cells7 (uh HN).ii.r0; simp only [noSl, noItem] at d0 d1 d2 d3 d4 d5 d6)
       refine bodyPost_ret (v := iv it (.slice co cn cc) (.slice ro rn rc)) ?_ rfl ?_
       ·simp [results, Tryz.results111, go_sem, iv, icells, d0, d1, d2, d3, d4, d5, d6]
       refine Or.inr ⟨it, _, HF.out, A.out.2.1, _, _, vs, rfl, (uh HN).ii.mv.put7 (Nat.le_refl _) hlt _ _ _ _ _ _ _, ?_, ?_⟩
       ·exact own7 (uh HN).co (uh HN).ii.r0 (by decide)
       ·exact ⟨(uh HN).ru.1, own7 (uh HN).ru.2.1 (uh HN).ii.r0 (by decide), fun x hx => own7 ((uh HN).ru.2.2 x hx) (uh HN).ii.r0 (by decide)⟩
      | false =>
       have hid := nextP_idem hm
       have HI := hide hid
       have H2 := hide h2
       clear h2 hid
       go_wp2_with (go_at_call 133; refine (take_no _ _ m _ _ (by exact A.out.2.2.2.ii.mv.rd) hs hm (by simp) (by exact uh H2)).mono ?_; rintro e w2 ⟨rfl, hm2⟩; have HN := hide (A.out.2.2.2.moved hm2); clear hm2)
       obtain ⟨hg, hisT, hcol, _⟩ := A.out
       rw [rulesR, if_neg (by rw [uh H2]; simp)] at hcol
       obtain ⟨⟨c0, c1, c2, c3, c4, c5, c6⟩, f0, f1, f2, f3, f4, f5, f6⟩ := cells7 (uh HN).ii.r1
       clear c0 c1 c2 c3 c4 c5 f0 f1 f2 f3 f4 f5
       cases hn : ruleR s (nextP s m) with
       | inl p =>
        rw [hn] at hcol
        have HF := hide hcol
        have HT := hide hn
        clear hcol hn hg hisT
        refine wp_region_any (by kernel_rfl) ?_
        try (change wpAny _ _ _ _ _ _ _ (World.drew _))
        refine wpAny_take (i := 0) (v := ?vv0) rfl (by kernel_rfl) (by kernel_rfl) (by kernel_rfl) (fun _ _ _ h => h) (Or.inl ⟨by rfl, ?hy0⟩) ?rest0
        case hy0 => intro w; go_simp; try with_reducible rfl
        case rest0 =>
        refine wpAny_take (i := 2) (v := ?vv2) rfl (by kernel_rfl) (by kernel_rfl) (by kernel_rfl) (fun _ _ _ h => h) (Or.inl ⟨by rfl, ?hy2⟩) ?rest2
        case hy2 => intro w; go_simp; try with_reducible rfl
        case rest2 =>
        refine wpAny_ready (rs := [1, 3]) (by kernel_rfl) (by simp) ?_
        refine AllReady.cons rfl (fun K hK => ?_) ?_
        ·go_simp
         refine hK _ _ ?_
         clear hK K
         refine wpAny_ready (rs := [3]) (by kernel_rfl) (by simp) ?_
         refine AllReady.cons rfl (fun K hK => ?_) AllReady.nil
         go_simp
         refine (rule_no _ _ _ _ (by exact (uh HN).ii.mv.rd) hs hpm (uh HT)).mono ?_
         rintro e w6 ⟨rfl, m6, hm6⟩
         have HP := hide ((uh HN).ii.mv.trans (Moved.of_drew hm6))
         clear hm6
         go_wp2
         exact ⟨rfl, Or.inl ⟨_, HF.out, rfl, _, uh HP⟩⟩
        ·refine AllReady.cons rfl (fun K hK => ?_) AllReady.nil
         go_simp
         refine (rule_no _ _ _ _ (by exact (uh HN).ii.mv.rd) hs hpm (uh HT)).mono ?_
         rintro e w6 ⟨rfl, m6, hm6⟩
         have HP := hide ((uh HN).ii.mv.trans (Moved.of_drew hm6))
         clear hm6
         go_wp2
         exact ⟨rfl, Or.inl ⟨_, HF.out, rfl, _, uh HP⟩⟩
       | inr rq =>
        obtain ⟨⟨rts, rnum⟩, q'⟩ := rq
        rw [hn] at hcol
        have hnb := ruleR_bd hpm hn
        have HF := hide hcol
        have HT := hide hn
        have HG : Hid (gk = s.size - m ∧ it.isT = true) := ⟨hg, hisT⟩
        clear hcol hn hg hisT
        go_region_law (first
         | (refine step_append_lies _ (by rfl) _ _ _ (by rfl) w.heap.size 155 i0 _ 2 32 Tryz.underlying112 hi hz0 hz1 hz2 rfl (by decide) (.slice ro rn rc) it.rules.length (rcells vs it.rules) (by rfl) ((uh HP).ru.2.1.alloc _) ⟨w6.heap.size, 0, none⟩ 1 1 [.slice ao sn sc, .int .i64 rnum] (by rfl) (by rfl) (World.news_of_block (cs := #[.slice ao sn sc, .int .i64 rnum]) (t := 155) (fr := (0, 0)) (heap_alloc_new w6 _)) (by simp [Value.oneCell']) (by decide) (by unfold maxLen; omega) (by omega) (by have := (uh HP).ii.mv.size; simp; omega) (w6.heap.size + 1) (by simp) ?_; intro gg cap w7 hown7 hgrow7 hat7 hlt7; have HQ := hide ((uh HP).pushed (r := ⟨rts, rnum⟩) (uh HU) hgrow7 hown7 rfl); obtain ⟨hd1, hd2⟩ := (uh HP).mid hgrow7; clear hown7 hgrow7 hat7 hlt7)
         | (go_simp; go_at_call 138; refine (rule_yes _ _ _ _ (by exact (uh HN).ii.mv.rd) hs hpm (uh HT)).mono ?_; rintro e w6 ⟨ao, sn, sc, rfl, hm6, hu6⟩; have HP := hide ((uh HN).moved (Moved.of_drew hm6)); have HU := hide (owns_base hu6 (by have := (uh HN).ii.mv.size; simpa using this)); clear hm6 hu6; have hN1 := lt_of_block (uh HP).ii.r1; obtain ⟨⟨d0, d1, d2, d3, d4, d5, d6⟩, g0, g1, g2, g3, g4, g5, g6⟩ := cells7 (uh HP).ii.r1; clear d0 d1 d2 d3 d4 d5 g0 g1 g2 g3 g4 g5; simp only [rv]))
        all_goals
         go_wp2
         go_roundg (s.size - q')
         case measure => have := HG.out.1; omega
         case rel => exact ⟨q', g', { it with rules := it.rules ++ [⟨rts, rnum⟩] }, _, _, rfl, by omega, by omega, by simp; omega, HG.out.2, HF.out, uh HQ⟩
end Go.Proofs.YtdgbmcbkbkbdoaaGreatDoor
namespace Go.Proofs.YtdgbmcbkbkbdoaaGreatDoor
open Go.RowKit
def itemR (s : ByteArray) (k : Nat) : Res PItem :=
 if (s.extract (nextP s k) (lowEnd s (nextP s k))).toList == [105, 110] then inputR s (lowEnd s (nextP s k))
 else if (s.extract (nextP s k) (lowEnd s (nextP s k))).toList == [116, 97, 98, 108, 101] then tableR s (lowEnd s (nextP s k))
 else .inl (nextP s k)
structure LItem where
 it : PItem
 cv : Value
 rv : Value
 vs : List Value
def ItemAt (base : Nat) (w : World) (x : LItem) : Prop :=
 w.ownsRow base 9 1 x.cv x.it.cols.length (x.it.cols.map Value.string) ∧ RulesAt base w x.rv x.vs x.it.rules
def itCells (x : LItem) : List Value := (icells x.it x.cv x.rv).toList
def ItemsAt (base : Nat) (w : World) (v : Value) (xs : List LItem) : Prop :=
 w.ownsRow base 114 7 v xs.length (xs.flatMap itCells) ∧ ∀ x ∈ xs, ItemAt base w x
theorem ItemAt.keep {w w' : World} {base : Nat} {x : LItem} (h : ItemAt base w x) (k : ∀ (g : Nat) (c : Array Value) (e : TypeId), e = 9 ∨ e = 155 ∨ e = 185 → base ≤ g → w.heap[g]? = some (.cells c e) → w'.heap[g]? = w.heap[g]?) : ItemAt base w' x :=
 ⟨owns_keep h.1 (fun g c hb hg => k g c _ (by simp) hb hg), h.2.keep (fun g c hb hg => k g c _ (by simp) hb hg) (fun g c hb hg => k g c _ (by simp) hb hg)⟩
theorem ItemAt.moved {b : Nat} {s : ByteArray} {m : Nat} {w w' : World} {base : Nat} {x : LItem} (h : ItemAt base w x) (g : Moved 147 b s m w w') (hb : b < base) : ItemAt base w' x :=
 ⟨owns_moved h.1 g hb, h.2.moved g hb⟩
theorem ItemAt.base {w : World} {base base' : Nat} {x : LItem} (h : ItemAt base w x) (hb : base' ≤ base) : ItemAt base' w x :=
 ⟨owns_base h.1 hb, h.2.1, owns_base h.2.2.1 hb, fun y hy => owns_base (h.2.2.2 y hy) hb⟩
theorem ItemsAt.moved {b : Nat} {s : ByteArray} {m : Nat} {w w' : World} {base : Nat} {v : Value} {xs : List LItem} (h : ItemsAt base w v xs) (g : Moved 147 b s m w w') (hb : b < base) : ItemsAt base w' v xs :=
 ⟨owns_moved h.1 g hb, fun x hx => (h.2 x hx).moved g hb⟩
theorem ItemsAt.push {w w' : World} {base : Nat} {v v' : Value} {xs : List LItem} {x : LItem} {o : Obj} {n : Nat} (h : ItemsAt base w v xs) (hx : ItemAt base w x) (g : (w.alloc o).grownBy w' v.ownBlock) (hv : w'.ownsRow base 114 7 v' n (xs.flatMap itCells ++ itCells x)) (hn : n = xs.length + 1) : ItemsAt base w' v' (xs ++ [x]) := by
 subst hn
 have keep : ∀ (gg : Nat) (c : Array Value) (e : TypeId), e = 9 ∨ e = 155 ∨ e = 185 → base ≤ gg → w.heap[gg]? = some (.cells c e) → w'.heap[gg]? = w.heap[gg]? := fun gg c e he _ hc => by
  have hne := owns_ne h.1 hc (by rcases he with rfl | rfl | rfl <;> decide)
  rw [g.block gg (by have := lt_of_block hc; simp; omega) (fun e => hne e.symm), Below.heap_alloc _ _ _ (lt_of_block hc)]
 refine ⟨by simpa using hv, ?_⟩
 intro y hy
 simp at hy
 rcases hy with hy | rfl
 ·exact (h.2 y hy).keep keep
 ·exact hx.keep keep
set_option maxRecDepth 100000 in
set_option maxHeartbeats 1600000 in
theorem item_any (b : Nat) (s : ByteArray) (k : Nat) (w : World) (hr : Rd 147 b s k w) (hs : s.size ≤ 1000) (hk : k ≤ s.size) :
  Calls Tryz.prog 81 #[.pointer (some ⟨b, 0, none⟩)] w fun e w' => (∃ p, itemR s k = .inl p ∧ e = .panicked [{ v := .iface 105 (.agg #[.int .i64 (p : Int)]), recovered := false }] ∧ ∃ m, Moved 147 b s m w w') ∨ (∃ it q, itemR s k = .inr (it, q) ∧ ∃ co cn cc ro rn rc vs, e = .returned (iv it (.slice co cn cc) (.slice ro rn rc)) ∧ Moved 147 b s q w w' ∧ ItemAt w.heap.size w' ⟨it, .slice co cn cc, .slice ro rn rc, vs⟩) := by
 have hp := nextP_le hk
 have hq := lowEnd_le hp
 have hlt := hr.lt
 have H := hide hr
 clear hr
 have hpp : nextP s (nextP s k) = nextP s k := nextP_idem hk
 have HP := hide hpp
 clear hpp
 go_enter Tryz.func81, Tryz.ntmps81
 go_wp2_with (go_at_call 108; refine (next_any _ _ k _ (by exact (uh H).alloc _) hs hk).mono ?_; rintro e w1 ⟨rfl, hm1⟩; have HM := hide hm1; clear hm1)
 refine (word_any _ _ _ _ (uh HM).rd hs hp).mono ?_
 rintro e w2 ⟨rfl, hm2⟩
 rw [uh HP] at hm2 ⊢
 have HN := hide ((uh HM).trans hm2)
 clear hm2 HM HP H
 cases h1 : ((s.extract (nextP s k) (lowEnd s (nextP s k))).toList == [105, 110]) with
 | true =>
  have HG : Hid (itemR s k = inputR s (lowEnd s (nextP s k))) := hide (by unfold itemR; rw [if_pos h1])
  generalize hx : s.extract (nextP s k) (lowEnd s (nextP s k)) = x at *
  clear hx
  go_wp2_with fail
  refine (input_any _ _ _ _ (uh HN).rd hs hq).mono ?_
  rintro e w3 (⟨p, hd, rfl, m, hm3⟩ | ⟨it, q, hd, hisT, hco, hru, rfl, hm3⟩)
  ·have HF : Hid (itemR s k = .inl p) := hide (by rw [uh HG, hd])
   have HS := hide ((uh HN).trans hm3)
   clear hd hm3
   go_wp2
   exact ⟨rfl, Or.inl ⟨_, HF.out, rfl, _, (uh HS).of_alloc⟩⟩
  ·have HF : Hid (itemR s k = .inr (it, q) ∧ it.cols = [] ∧ it.rules = []) := ⟨by rw [uh HG, hd], hco, hru⟩
   have HS := hide ((uh HN).trans hm3)
   clear hd hm3 hco hru hisT
   obtain ⟨⟨d0, d1, d2, d3, d4, d5, d6⟩, g0, g1, g2, g3, g4, g5, g6⟩ := cells7 ((uh HS).kept hlt)
   simp only [iv, icells, noSl]
   go_wp2
   refine bodyPost_ret (v := iv it noSl noSl) ?_ rfl ?_
   ·simp [results, Tryz.results81, go_sem, iv, icells, noSl, d0, d1, d2, d3, d4, d5, d6]
   refine Or.inr ⟨_, _, HF.out.1, none, 0, 0, none, 0, 0, [], rfl, (uh HS).of_alloc.put7 (Nat.le_refl _) hlt _ _ _ _ _ _ _, ?_, ?_⟩
   ·simp only [HF.out.2.1]; exact World.ownsRow_nil _ _ _ _
   ·simp only [HF.out.2.2]; exact RulesAt.nil _ _
 | false =>
  cases h2 : ((s.extract (nextP s k) (lowEnd s (nextP s k))).toList == [116, 97, 98, 108, 101]) with
  | true =>
   have HG : Hid (itemR s k = tableR s (lowEnd s (nextP s k))) := hide (by unfold itemR; rw [if_neg (by rw [h1]; simp), if_pos h2])
   generalize hx : s.extract (nextP s k) (lowEnd s (nextP s k)) = x at *
   clear hx
   go_wp2_with fail
   refine (table_any _ _ _ _ (uh HN).rd hs hq).mono ?_
   rintro e w3 (⟨p, hd, rfl, m, hm3⟩ | ⟨it, q, hd, hisT, cv, rv0, vs, rfl, hm3, hco, hru⟩)
   ·have HF : Hid (itemR s k = .inl p) := hide (by rw [uh HG, hd])
    have HS := hide ((uh HN).trans hm3)
    clear hd hm3
    go_wp2
    exact ⟨rfl, Or.inl ⟨_, HF.out, rfl, _, (uh HS).of_alloc⟩⟩
   ·have HF : Hid (itemR s k = .inr (it, q)) := hide (by rw [uh HG, hd])
    have HS := hide ((uh HN).trans hm3)
    obtain ⟨co, cn, cc, rfl⟩ := owns_form hco
    obtain ⟨ro, rn, rc, rfl⟩ := owns_form hru.2.1
    have hsz : w.heap.size ≤ w2.heap.size := by have := (uh HN).size; simp at this; omega
    have HA : Hid (ItemAt w.heap.size w3 ⟨it, .slice co cn cc, .slice ro rn rc, vs⟩) := ItemAt.base ⟨hco, hru⟩ hsz
    clear hd hm3 hco hru hisT
    have hr0 := (uh HS).kept hlt
    obtain ⟨⟨d0, d1, d2, d3, d4, d5, d6⟩, g0, g1, g2, g3, g4, g5, g6⟩ := cells7 hr0
    have HR0 := hide hr0
    clear hr0
    simp only [iv, icells]
    go_wp2
    refine bodyPost_ret (v := iv it (.slice co cn cc) (.slice ro rn rc)) ?_ rfl ?_
    ·simp [results, Tryz.results81, go_sem, iv, icells, d0, d1, d2, d3, d4, d5, d6]
    refine Or.inr ⟨_, _, HF.out, _, _, _, _, _, _, vs, rfl, (uh HS).of_alloc.put7 (Nat.le_refl _) hlt _ _ _ _ _ _ _, ?_, ?_⟩
    ·exact own7 (uh HA).1 (uh HR0) (by decide)
    ·exact ⟨(uh HA).2.1, own7 (uh HA).2.2.1 (uh HR0) (by decide), fun x hx => own7 ((uh HA).2.2.2 x hx) (uh HR0) (by decide)⟩
  | false =>
   have HG : Hid (itemR s k = .inl (nextP s k)) := hide (by unfold itemR; rw [if_neg (by rw [h1]; simp), if_neg (by rw [h2]; simp)])
   generalize hx : s.extract (nextP s k) (lowEnd s (nextP s k)) = x at *
   clear hx
   go_wp2_with fail
   exact ⟨rfl, Or.inl ⟨_, HG.out, rfl, _, (uh HN).of_alloc⟩⟩
end Go.Proofs.YtdgbmcbkbkbdoaaGreatDoor
namespace Go.Proofs.YtdgbmcbkbkbdoaaGreatDoor
open Go.RowKit
def itemsR (s : ByteArray) : Nat → Nat → List PItem → Sum Nat (List PItem)
 | 0, k, _ => .inl k
 | f + 1, k, its =>
  if nextP s k = s.size then .inr its
  else match itemR s (nextP s k) with
   | .inl p => .inl p
   | .inr (it, q) => itemsR s f q (its ++ [it])
def planR (s : ByteArray) : Sum Nat (List PItem) := itemsR s (s.size + 1) 0 []
theorem inputR_bd {s : ByteArray} {k q : Nat} {it : PItem} (hk : k ≤ s.size) (h : inputR s k = .inr (it, q)) : k < q ∧ q ≤ s.size := by
 unfold inputR at h
 split at h
 ·cases h
 rename_i x q1 hn
 have b1 := nameR_bd hk hn
 have h1 := nextP_le b1.2.1
 have h2 := nextP_ge s q1
 have fin : ∀ (r : Nat) (i : PItem), r ≤ s.size → q1 ≤ r → endIn s r i = .inr (it, q) → k < q ∧ q ≤ s.size := fun r i hr hqr h => by
  have a1 := nextP_le hr
  have a2 := nextP_ge s r
  unfold endIn at h
  split at h
  ·rename_i hc
   have := inR_lt (by omega) hc
   simp only [Sum.inr.injEq, Prod.mk.injEq] at h
   omega
  ·cases h
 split at h
 ·rename_i ha
  have h3 := inR_lt (by omega) ha
  split at h
  ·cases h
  ·rename_i v r hm
   have b2 := marksR_bd (by omega) hm
   exact fin r _ b2.2 (by omega) h
 ·exact fin (nextP s q1) _ h1 h2 h
theorem rulesR_bd (s : ByteArray) : ∀ (f k : Nat) (i it : PItem) (q : Nat), k ≤ s.size → rulesR s f k i = .inr (it, q) → k < q ∧ q ≤ s.size
 | 0, k, i, it, q, hk, h => by cases h
 | f + 1, k, i, it, q, hk, h => by
  have h1 := nextP_le hk
  have h4 := nextP_ge s k
  simp only [rulesR] at h
  split at h
  ·rename_i ha
   have h5 := inR_lt (by omega) ha
   simp only [Sum.inr.injEq, Prod.mk.injEq] at h
   omega
  ·split at h
   ·cases h
   ·rename_i r q' hn
    have b1 := ruleR_bd h1 hn
    have := rulesR_bd s f q' _ it q b1.2 h
    omega
theorem tableR_bd {s : ByteArray} {k q : Nat} {it : PItem} (hk : k ≤ s.size) (h : tableR s k = .inr (it, q)) : k < q ∧ q ≤ s.size := by
 unfold tableR at h
 split at h
 ·cases h
 rename_i x q1 hn
 have b1 := nameR_bd hk hn
 split at h
 ·cases h
 rename_i c q2 hp
 have b2 := policyR_bd b1.2.1 hp
 split at h
 ·cases h
 rename_i xs q3 hc
 have b3 := columnsR_bd b2.1.2 hc
 have h1 := nextP_le b3.2
 have h2 := nextP_ge s q3
 have fin : ∀ (r : Nat) (i : PItem), r ≤ s.size → q3 ≤ r → bodyR s r i = .inr (it, q) → k < q ∧ q ≤ s.size := fun r i hr hqr h => by
  have a1 := nextP_le hr
  have a2 := nextP_ge s r
  unfold bodyR at h
  split at h
  ·rename_i hc
   have := inR_lt (by omega) hc
   have := rulesR_bd s _ _ _ _ _ (by omega) h
   omega
  ·cases h
 unfold dropsR at h
 split at h
 ·rename_i ha
  have h3 := inR_lt (by omega) ha
  split at h
  ·cases h
  ·rename_i v r hm
   have b2 := marksR_bd (by omega) hm
   exact fin r _ b2.2 (by omega) h
 ·exact fin (nextP s q3) _ h1 h2 h
theorem itemR_bd {s : ByteArray} {k q : Nat} {it : PItem} (hk : k ≤ s.size) (h : itemR s k = .inr (it, q)) : k < q ∧ q ≤ s.size := by
 have hp := nextP_le hk
 have hq := lowEnd_le hp
 have h1 := nextP_ge s k
 have h2 := lowEnd_ge s (nextP s k)
 unfold itemR at h
 split at h
 ·have := inputR_bd hq h; omega
 split at h
 ·have := tableR_bd hq h; omega
 ·cases h
theorem Tryz.info_item : (Tryz.prog.info? 114).map (fun i => (i.zero, i.size, i.bytes)) = some (some (.agg #[.string ByteArray.empty, .bool false, .int .i64 0, .int .u8 0, .slice none 0 0, .int .i64 0, .slice none 0 0]), 7, 96) := by kernel_rfl
theorem Moved.below_of {T : TypeId} {s : ByteArray} {k : Nat} {w w' : World} {o : Obj} (h : Moved T w.heap.size s k (w.alloc o) w') : Below w.heap.size w w' :=
 ⟨h.os, h.tape, h.output, by have := h.size; simp at this; omega, fun j hj => by rw [h.block j (by simp; omega) (by omega), Below.heap_alloc _ _ _ hj]⟩
set_option maxRecDepth 100000 in
set_option maxHeartbeats 1600000 in
theorem items_any (s : ByteArray) (w : World) (hs : s.size ≤ 1000) :
  Calls Tryz.prog 52 #[.string s] w fun e w' => (∃ p, planR s = .inl p ∧ e = .panicked [{ v := .iface 105 (.agg #[.int .i64 (p : Int)]), recovered := false }] ∧ Below w.heap.size w w') ∨ (∃ its, planR s = .inr its ∧ ∃ v xs, xs.map LItem.it = its ∧ e = .returned v ∧ Below w.heap.size w w' ∧ ItemsAt (w.heap.size + 1) w' v xs) := by
 obtain ⟨i0, hi, hz0, hz1, hz2⟩ := info_parts Tryz.info_item
 go_enter Tryz.func52, Tryz.ntmps52
 go_wp2_with fail
 have HR : Hid (Rd 147 w.heap.size s 0 (w.alloc (.cells #[.string s, .int .i64 0] 147))) := alloc_last w _
 go_loopg [4] (s.size) (fun g v wr => ∃ m f xs, g = s.size - m ∧ s.size + 1 - m ≤ f ∧ m ≤ s.size ∧ xs.length ≤ m ∧ planR s = itemsR s f m (xs.map LItem.it) ∧ Moved 147 w.heap.size s m (w.alloc (.cells #[.string s, .int .i64 0] 147)) wr ∧ ItemsAt (w.heap.size + 1) wr v xs)
 case atStart => exact ⟨0, s.size + 1, [], rfl, by omega, by omega, by simp, rfl, Moved.refl (uh HR), World.ownsRow_nil _ _ _ _, by simp⟩
 case round =>
  obtain ⟨m, f, xs, hg, hf, hm, hlen, hpl, hmv, hit⟩ := hrel
  clear HR
  have hpm := nextP_le hm
  have hge := nextP_ge s m
  obtain ⟨g', rfl⟩ : ∃ g', f = g' + 1 := ⟨f - 1, by omega⟩
  obtain ⟨lo, ln, lc, rfl⟩ := owns_form hit.1
  have A : Aside (gk = s.size - m ∧ planR s = itemsR s (g' + 1) m (xs.map LItem.it) ∧ Moved 147 w.heap.size s m (w.alloc (.cells #[.string s, .int .i64 0] 147)) wr ∧ ItemsAt (w.heap.size + 1) wr (.slice lo ln lc) xs) := ⟨hg, hpl, hmv, hit⟩
  clear hg hpl hmv hit
  by_cases h1 : nextP s m = s.size
  ·have HF : Hid (planR s = .inr (xs.map LItem.it)) := hide (by rw [A.out.2.1, itemsR, if_pos h1])
   have hde : decide (nextP s m = s.size) = true := by simpa using h1
   have HD := hide hde
   clear h1 hde
   go_wp2_with (go_at_call 80; refine (ended_any _ _ m _ (by exact A.out.2.2.1.rd) hs hm).mono ?_; rintro e w2 ⟨rfl, hm2⟩; rw [uh HD]; have HN := hide hm2; clear hm2)
   go_ret
   exact Or.inr ⟨_, HF.out, _, xs, rfl, rfl, (A.out.2.2.1.trans (uh HN)).below_of, A.out.2.2.2.moved (uh HN) (by omega)⟩
  ·have HG : Hid (planR s = match itemR s (nextP s m) with | .inl p => .inl p | .inr (it, q) => itemsR s g' q (xs.map LItem.it ++ [it])) := hide (by rw [A.out.2.1, itemsR, if_neg h1])
   have hde : decide (nextP s m = s.size) = false := by simpa using h1
   have HD := hide hde
   clear h1 hde
   go_wp2_with (go_at_call 80; refine (ended_any _ _ m _ (by exact A.out.2.2.1.rd) hs hm).mono ?_; rintro e w2 ⟨rfl, hm2⟩; rw [uh HD]; have HN := hide hm2; clear hm2)
   refine (item_any _ _ _ _ (uh HN).rd hs hpm).mono ?_
   rintro e w3 (⟨p, hd, rfl, m3, hm3⟩ | ⟨it, q, hd, co, cn, cc, ro, rn, rc, vs, rfl, hm3, hia⟩)
   ·have HF : Hid (planR s = .inl p) := hide (by rw [uh HG, hd])
    have HS := hide ((A.out.2.2.1.trans (uh HN)).trans hm3)
    clear hd hm3
    go_wp2
    exact ⟨rfl, Or.inl ⟨_, HF.out, rfl, (uh HS).below_of⟩⟩
   ·have HF : Hid (planR s = itemsR s g' q (List.map LItem.it (xs ++ [(⟨it, .slice co cn cc, .slice ro rn rc, vs⟩ : LItem)]))) := hide (by rw [uh HG, hd]; simp)
    have hbd := itemR_bd hpm hd
    have HS := hide ((A.out.2.2.1.trans (uh HN)).trans hm3)
    have hw2 : w.heap.size + 1 ≤ w2.heap.size := by have := (A.out.2.2.1.trans (uh HN)).size; simp at this; omega
    have HA := hide (hia.base hw2)
    have HL := hide ((A.out.2.2.2.moved (uh HN) (by omega)).moved hm3 (by omega))
    have hw3 : w.heap.size + 1 ≤ w3.heap.size := by have := hm3.size; omega
    clear hd hm3 hia
    simp only [iv, icells]
    go_wp2_with (at_builtin; refine wpList_append_own _ rfl _ _ 81 rfl (w.heap.size + 1) 114 i0 _ 7 96 Tryz.underlying81 hi hz0 hz1 hz2 rfl (by decide) _ _ _ rfl ((uh HL).1.alloc _) ⟨w3.heap.size, 0, none⟩ 1 1 (itCells ⟨it, .slice co cn cc, .slice ro rn rc, vs⟩) rfl rfl (World.news_of_block (cs := icells it (.slice co cn cc) (.slice ro rn rc)) (t := 114) (fr := (0, 0)) (heap_alloc_new w3 _)) ?c2 ?c3 ?c4 ?c5 ?_)
    case c2 => intro u hu; simp [itCells, icells] at hu; rcases hu with rfl | rfl | rfl | rfl | rfl | rfl | rfl <;> rfl
    case c3 => unfold maxLen; omega
    case c4 => omega
    case c5 => simp; omega
    ·intro v' w5 hown5 hgrow _
     have HM5 : Hid (Moved 147 w.heap.size s q (w.alloc (.cells #[.string s, .int .i64 0] 147)) w5) := ((uh HS).alloc _).grown hgrow (fun j hj => by have := ((uh HL).1.lt j hj).1; simpa using this) (by simp)
     have HL5 := hide ((uh HL).push (uh HA) hgrow hown5 rfl)
     clear hown5 hgrow
     go_wp2
     go_roundg (s.size - q)
     case measure => have := A.out.1; omega
     case rel => exact ⟨q, g', xs ++ [⟨it, .slice co cn cc, .slice ro rn rc, vs⟩], rfl, by omega, by omega, by simp; omega, HF.out, uh HM5, uh HL5⟩
end Go.Proofs.YtdgbmcbkbkbdoaaGreatDoor
