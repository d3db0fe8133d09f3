import Derived.Deep.DeepCutAuto
import Derived.Test.YthnggjaecngbiaaGreatDoorRfG
namespace Go.Proofs.YthnggjaecngbiaaGreatDoor
open Go.RowKit
set_option maxRecDepth 8000 in
set_option maxHeartbeats 25600000 in
theorem rtable_letter (C : Int) (hC : C = 85 ∨ C = 70 ∨ C = 83 ∨ C = 78 ∨ C = 80) (b : Nat) (s : ByteArray) (k : Nat) (far : Bool) (w : World) (hr : RR b s k false far w) (hs : s.size ≤ 1000) (hk : k ≤ s.size) (hb : nextP s k = k) {x : ByteArray} {q : Nat} (hn : nameR s k = .inr (x, q)) (hc : byteAt s (nextP s q) = C) :
  Calls Tryz.prog 110 #[.pointer (some ⟨b, 0, none⟩)] w fun e w' => (∃ p, tableR s k = .inl p ∧ (∃ nm mk po dr co cn cc ro rn rc, e = .returned (.agg #[.string nm, .int .i64 mk, .int .u8 po, .bool dr, .slice co cn cc, .slice ro rn rc])) ∧ Mv b w w' ∧ ∃ far', RR b s p true far' w') ∨ (∃ it q, tableR s k = .inr (it, q) ∧ ∃ co cn cc ro rn rc vs, e = .returned (.agg (ricells it (.slice co cn cc) (.slice ro rn rc))) ∧ Mv b w w' ∧ RR b s (nextP s q) false (far || farItem it) w' ∧ RItemAt w.heap.size w' ⟨it, .slice co cn cc, .slice ro rn rc, vs⟩) := by
 have hbl := hr.lt
 obtain ⟨i0, hi, hz0, hz1, hz2⟩ := info_parts Tryz.info_string
 obtain ⟨j0, ki, kz0, kz1, kz2⟩ := info_parts Tryz.info_rrule
 have HS := hide (II.start hr _ _ rfl rfl)
 clear hr
 go_enter Tryz.func110, Tryz.ntmps110
 go_wp2_with fail
 have HI := HS
 clear HS
 obtain ⟨⟨c0, c1, c2, c3, c4, c5⟩, f0, f1, f2, f3, f4, f5⟩ := (uh HI).cells
 obtain ⟨⟨d0, d1, d2, d3, d4, d5⟩, g0, g1, g2, g3, g4, g5⟩ := (uh HI).cells0
 simp only [IR.zero] at c0 c1 c2 c3 c4 c5
 have hnb := nameR_bd hk hn
 have hpq := nextP_le hnb.2.1
 refine (rname_yes b s k far _ (uh HI).rr hs hk hb hn).mono ?_
 rintro e w3 ⟨rfl, hm3, hr3⟩
 have HJ := hide ((uh HI).moved hm3 hr3)
 clear HI c0 c1 c2 c3 c4 c5 f0 f1 f2 f3 f4 f5 d0 d1 d2 d3 d4 d5 g0 g1 g2 g3 g4 g5
 have HI := HJ
 clear HJ
 obtain ⟨⟨c0, c1, c2, c3, c4, c5⟩, f0, f1, f2, f3, f4, f5⟩ := (uh HI).cells
 obtain ⟨⟨d0, d1, d2, d3, d4, d5⟩, g0, g1, g2, g3, g4, g5⟩ := (uh HI).cells0
 simp only [IR.zero] at c0 c1 c2 c3 c4 c5
 clear hm3 hr3
 have HN := hide hn
 clear hn
 generalize hm1 : nextP s q = m1 at *
 have HM1 := hide hm1
 clear hm1
 have hpol : isPol (byteAt s m1) = true := by rw [hc]; unfold isPol; simpa using hC
 have HT1 : Hid (tableR s k = tabC s x (byteAt s m1) (columnsR s (m1 + 1))) := hide (by
  unfold tableR; rw [uh HN]; simp only; unfold policyR; rw [uh HM1, hpol, if_pos rfl]; simp only
  cases columnsR s (m1 + 1) <;> rfl)
 have hlt1 : m1 < s.size := by
  rcases Nat.lt_or_ge m1 s.size with h | h
  ·exact h
  ·rw [byteAt_out h] at hpol; cases hpol
 rw [hc] at HT1
 have hC8 : 0 < C ∧ C < 256 := by omega
 have HL : Hid (inR s m1 C C = true) := hide (by rw [inR_one, hc]; simp)
 have HX := hide (hv_yes (uh HL) (by omega))
 clear hc hpol
 go_upto_region 4 with (go_at_call 137; refine (rhere_any _ _ m1 false _ _ (by exact ((uh HI).set0 _).rr)).mono ?_; rintro e w' ⟨rfl, j, rfl⟩; rw [uh HX])
 go_cut [4, 30] (fun s4 s30 wx => s4 = .int .u8 C ∧ s30 = .bool false ∧ wx = (w3.setCell ⟨w.heap.size + 1, 0, none⟩ (.string x)).drewN j)
 case first =>
  rcases hC with hC | hC | hC | hC | hC
  all_goals
   have e85 : (C != 85) = _ := congrArg (· != (85 : Int)) hC
   have e70 : (C != 70) = _ := congrArg (· != (70 : Int)) hC
   have e83 : (C != 83) = _ := congrArg (· != (83 : Int)) hC
   have e78 : (C != 78) = _ := congrArg (· != (78 : Int)) hC
   have e80 : (C != 80) = _ := congrArg (· != (80 : Int)) hC
   simp only [Int.reduceBNe] at e85 e70 e83 e78 e80
   have HC := hide hC
   clear hC
   go_wp2_with fail
   go_meet
   exact ⟨by first | rfl | rw [uh HC], rfl, rfl⟩
 case rest =>
  obtain ⟨rfl, rfl, rfl⟩ := hcut
  clear hC
  go_wp2_with fail
  refine (rone_yes b s m1 C far _ ((((uh HI).set0 x).drewN _).set2 C).rr hs (by omega) (uh HL)).mono ?_
  rintro e w3 ⟨rfl, hm3, hr3⟩
  have HJ := hide (((((uh HI).set0 x).drewN _).set2 C).moved hm3 hr3)
  clear HI c0 c1 c2 c3 c4 c5 f0 f1 f2 f3 f4 f5 d0 d1 d2 d3 d4 d5 g0 g1 g2 g3 g4 g5
  have HI := HJ
  clear HJ
  obtain ⟨⟨c0, c1, c2, c3, c4, c5⟩, f0, f1, f2, f3, f4, f5⟩ := (uh HI).cells
  obtain ⟨⟨d0, d1, d2, d3, d4, d5⟩, g0, g1, g2, g3, g4, g5⟩ := (uh HI).cells0
  simp only [IR.zero] at c0 c1 c2 c3 c4 c5
  clear hm3 hr3
  go_wp2_with fail
  generalize hm2 : nextP s (m1 + 1) = m2 at *
  have HM2 := hide hm2
  clear hm2
  cases h40 : inR s m2 40 40 with
  | false =>
   have HF : Hid (tableR s k = .inl m2) := hide (by rw [uh HT1]; unfold columnsR; rw [uh HM2, h40]; rfl)
   refine (rone_no b s m2 40 false far _ (uh HI).rr (by omega) (Or.inr h40)).mono ?_
   rintro e w3 ⟨rfl, hm3, hr3⟩
   have HJ := hide ((uh HI).moved hm3 hr3)
   clear HI c0 c1 c2 c3 c4 c5 f0 f1 f2 f3 f4 f5 d0 d1 d2 d3 d4 d5 g0 g1 g2 g3 g4 g5
   have HI := HJ
   clear HJ
   obtain ⟨⟨c0, c1, c2, c3, c4, c5⟩, f0, f1, f2, f3, f4, f5⟩ := (uh HI).cells
   obtain ⟨⟨d0, d1, d2, d3, d4, d5⟩, g0, g1, g2, g3, g4, g5⟩ := (uh HI).cells0
   simp only [IR.zero] at c0 c1 c2 c3 c4 c5
   clear hm3 hr3
   clear h40
   have b2 := (uh HI).rr.badC
   go_wp2_with fail
   go_loopg [] 0 (fun _ wr => wr = w3)
   case atStart => rfl
   case round =>
    subst hrel
    go_wp2_with fail
    clear b2
    refine (rone_no b s m2 41 true far _ (uh HI).rr (by omega) (Or.inl rfl)).mono ?_
    rintro e w3 ⟨rfl, hm3, hr3⟩
    have HJ := hide ((uh HI).moved hm3 hr3)
    clear HI c0 c1 c2 c3 c4 c5 f0 f1 f2 f3 f4 f5 d0 d1 d2 d3 d4 d5 g0 g1 g2 g3 g4 g5
    have HI := HJ
    clear HJ
    obtain ⟨⟨c0, c1, c2, c3, c4, c5⟩, f0, f1, f2, f3, f4, f5⟩ := (uh HI).cells
    obtain ⟨⟨d0, d1, d2, d3, d4, d5⟩, g0, g1, g2, g3, g4, g5⟩ := (uh HI).cells0
    simp only [IR.zero] at c0 c1 c2 c3 c4 c5
    clear hm3 hr3
    go_wp2_with (go_at_call 137; refine (rhere_any _ _ m2 true far _ (by exact (uh HI).rr)).mono ?_; rintro e w' ⟨rfl, j, rfl⟩; rw [hv_bad])
    refine (rone_no b s m2 123 true far _ ((uh HI).drewN _).rr (by omega) (Or.inl rfl)).mono ?_
    rintro e w3 ⟨rfl, hm3, hr3⟩
    have HJ := hide (((uh HI).drewN _).moved hm3 hr3)
    clear HI c0 c1 c2 c3 c4 c5 f0 f1 f2 f3 f4 f5 d0 d1 d2 d3 d4 d5 g0 g1 g2 g3 g4 g5
    have HI := HJ
    clear HJ
    obtain ⟨⟨c0, c1, c2, c3, c4, c5⟩, f0, f1, f2, f3, f4, f5⟩ := (uh HI).cells
    obtain ⟨⟨d0, d1, d2, d3, d4, d5⟩, g0, g1, g2, g3, g4, g5⟩ := (uh HI).cells0
    simp only [IR.zero] at c0 c1 c2 c3 c4 c5
    clear hm3 hr3
    have b2 := (uh HI).rr.badC
    go_wp2_with fail
    go_loopg [] 0 (fun _ wr => wr = w3)
    case atStart => rfl
    case round =>
     subst hrel
     go_wp2_with fail
     clear b2
     refine (rone_no b s m2 125 true far _ (uh HI).rr (by omega) (Or.inl rfl)).mono ?_
     rintro e w3 ⟨rfl, hm3, hr3⟩
     have HJ := hide ((uh HI).moved hm3 hr3)
     clear HI c0 c1 c2 c3 c4 c5 f0 f1 f2 f3 f4 f5 d0 d1 d2 d3 d4 d5 g0 g1 g2 g3 g4 g5
     have HI := HJ
     clear HJ
     obtain ⟨⟨c0, c1, c2, c3, c4, c5⟩, f0, f1, f2, f3, f4, f5⟩ := (uh HI).cells
     obtain ⟨⟨d0, d1, d2, d3, d4, d5⟩, g0, g1, g2, g3, g4, g5⟩ := (uh HI).cells0
     simp only [IR.zero] at c0 c1 c2 c3 c4 c5
     clear hm3 hr3
     go_wp2
     exact bodyPost_ret (v := .agg #[.string x, .int .i64 0, .int .u8 C, .bool false, .slice none 0 0, .slice none 0 0]) (by simp [results, Tryz.results110, go_sem, d0, d1, d2, d3, d4, d5]) rfl (Or.inl ⟨m2, uh HF, ⟨_, _, _, _, _, _, _, _, _, _, rfl⟩, ((uh HI).done _ _ _ _ _ _ rfl).1, _, ((uh HI).done _ _ _ _ _ _ rfl).2.1⟩)
  | true =>
   have hlt2 := inR_lt (by omega) h40
   have HH0 : Hid (columnsR s (m1 + 1) = headC s (nextP s (m2 + 1)) []) := hide (by rw [headC_next (by omega), ← uh HM2]; exact columnsR_head (by rw [uh HM2]; exact h40))
   refine (rone_yes b s m2 40 far _ (uh HI).rr hs (by omega) h40).mono ?_
   rintro e w3 ⟨rfl, hm3, hr3⟩
   have HJ := hide ((uh HI).moved hm3 hr3)
   clear HI c0 c1 c2 c3 c4 c5 f0 f1 f2 f3 f4 f5 d0 d1 d2 d3 d4 d5 g0 g1 g2 g3 g4 g5
   have HI := HJ
   clear HJ
   obtain ⟨⟨c0, c1, c2, c3, c4, c5⟩, f0, f1, f2, f3, f4, f5⟩ := (uh HI).cells
   obtain ⟨⟨d0, d1, d2, d3, d4, d5⟩, g0, g1, g2, g3, g4, g5⟩ := (uh HI).cells0
   simp only [IR.zero] at c0 c1 c2 c3 c4 c5
   clear hm3 hr3
   clear h40
   go_wp2_with fail
   go_loopg [] (s.size + 1 - nextP s (m2 + 1)) (fun g wr => ∃ m xs cv, g = s.size + 1 - m ∧ m ≤ s.size ∧ xs.length ≤ m ∧ nextP s m = m ∧ columnsR s (m1 + 1) = headC s m xs ∧ II b s m false far w wr w.heap.size (w.heap.size + 1) ⟨x, 0, C, false, cv, .slice none 0 0⟩ xs.length (xs.map Value.string) 0 [] [])
   case atStart => exact ⟨nextP s (m2 + 1), [], _, rfl, nextP_le (by omega), by simp, nextP_idem (by omega), uh HH0, uh HI⟩
   case round =>
    clear HI c0 c1 c2 c3 c4 c5 f0 f1 f2 f3 f4 f5 d0 d1 d2 d3 d4 d5 g0 g1 g2 g3 g4 g5 HH0
    obtain ⟨m, xs, cv, hg, hm, hlen, hmm, hH, hI⟩ := hrel
    have HI := hide hI
    have A : Aside (gk = s.size + 1 - m ∧ columnsR s (m1 + 1) = headC s m xs) := ⟨hg, hH⟩
    clear hg hH hI
    obtain ⟨o1, l1, p1, hcv⟩ := owns_form (uh HI).rows.co
    simp only at hcv
    subst hcv
    obtain ⟨⟨c0, c1, c2, c3, c4, c5⟩, f0, f1, f2, f3, f4, f5⟩ := (uh HI).cells
    obtain ⟨⟨d0, d1, d2, d3, d4, d5⟩, g0, g1, g2, g3, g4, g5⟩ := (uh HI).cells0
    simp only at c0 c1 c2 c3 c4 c5
    have b2 := (uh HI).rr.badC
    cases hn2 : nameR s m with
    | inl p =>
     have HF : Hid (tableR s k = .inl p) := hide (by rw [uh HT1, A.out.2]; unfold headC; rw [hn2]; rfl)
     go_wp2_with fail
     refine (rname_no b s m far _ (uh HI).rr hs hm hmm hn2).mono ?_
     rintro e w3 ⟨rfl, hm3, hr3⟩
     have HJ := hide ((uh HI).moved hm3 hr3)
     clear HI c0 c1 c2 c3 c4 c5 f0 f1 f2 f3 f4 f5 d0 d1 d2 d3 d4 d5 g0 g1 g2 g3 g4 g5
     have HI := HJ
     clear HJ
     obtain ⟨⟨c0, c1, c2, c3, c4, c5⟩, f0, f1, f2, f3, f4, f5⟩ := (uh HI).cells
     obtain ⟨⟨d0, d1, d2, d3, d4, d5⟩, g0, g1, g2, g3, g4, g5⟩ := (uh HI).cells0
     simp only at c0 c1 c2 c3 c4 c5
     clear hm3 hr3
     clear hn2 b2
     have hN1 := lt_of_block (uh HI).r1
     go_wp2_with (at_builtin; refine wpList_append_lies _ (by rfl) _ _ _ (by rfl) w.heap.size 9 i0 _ 1 16 Tryz.underlying53 hi hz0 hz1 hz2 rfl (by decide) (.slice o1 l1 p1) xs.length (xs.map Value.string) (by rfl) ((uh HI).rows.co.alloc _) ⟨w3.heap.size, 0, none⟩ 1 1 [.string ByteArray.empty] (by rfl) (by rfl) (World.news_of_block (cs := #[.string ByteArray.empty]) (t := 9) (fr := (0, 0)) (heap_alloc_new w3 _)) (by simp [Value.oneCell']) (by decide) (by unfold maxLen; omega) (by omega) (by have := (uh HI).mv.size; simp; omega) (w3.heap.size + 1) (by simp) ?_; intro gg cap w7 hown7 hgrow7 hat7 hlt7; obtain ⟨hQ, hd1, hd2⟩ := (uh HI).pushC hgrow7 hown7; have HQ := hide hQ; clear hQ hown7 hgrow7 hat7 hlt7)
     clear HI c0 c1 c2 c3 c4 c5 f0 f1 f2 f3 f4 f5 d0 d1 d2 d3 d4 d5 g0 g1 g2 g3 g4 g5 hd1 hd2
     have HI := HQ
     clear HQ
     obtain ⟨⟨c0, c1, c2, c3, c4, c5⟩, f0, f1, f2, f3, f4, f5⟩ := (uh HI).cells
     obtain ⟨⟨d0, d1, d2, d3, d4, d5⟩, g0, g1, g2, g3, g4, g5⟩ := (uh HI).cells0
     simp only at c0 c1 c2 c3 c4 c5
     go_wp2_with (go_at_call 137; refine (rhere_any _ _ p true far _ (by exact (uh HI).rr)).mono ?_; rintro e w' ⟨rfl, j, rfl⟩; rw [hv_bad])
     refine (rone_no b s p 41 true far _ ((uh HI).drewN _).rr (by omega) (Or.inl rfl)).mono ?_
     rintro e w3 ⟨rfl, hm3, hr3⟩
     have HJ := hide (((uh HI).drewN _).moved hm3 hr3)
     clear HI c0 c1 c2 c3 c4 c5 f0 f1 f2 f3 f4 f5 d0 d1 d2 d3 d4 d5 g0 g1 g2 g3 g4 g5
     have HI := HJ
     clear HJ
     obtain ⟨⟨c0, c1, c2, c3, c4, c5⟩, f0, f1, f2, f3, f4, f5⟩ := (uh HI).cells
     obtain ⟨⟨d0, d1, d2, d3, d4, d5⟩, g0, g1, g2, g3, g4, g5⟩ := (uh HI).cells0
     simp only at c0 c1 c2 c3 c4 c5
     clear hm3 hr3
     go_wp2_with (go_at_call 137; refine (rhere_any _ _ p true far _ (by exact (uh HI).rr)).mono ?_; rintro e w' ⟨rfl, j, rfl⟩; rw [hv_bad])
     refine (rone_no b s p 123 true far _ ((uh HI).drewN _).rr (by omega) (Or.inl rfl)).mono ?_
     rintro e w3 ⟨rfl, hm3, hr3⟩
     have HJ := hide (((uh HI).drewN _).moved hm3 hr3)
     clear HI c0 c1 c2 c3 c4 c5 f0 f1 f2 f3 f4 f5 d0 d1 d2 d3 d4 d5 g0 g1 g2 g3 g4 g5
     have HI := HJ
     clear HJ
     obtain ⟨⟨c0, c1, c2, c3, c4, c5⟩, f0, f1, f2, f3, f4, f5⟩ := (uh HI).cells
     obtain ⟨⟨d0, d1, d2, d3, d4, d5⟩, g0, g1, g2, g3, g4, g5⟩ := (uh HI).cells0
     simp only at c0 c1 c2 c3 c4 c5
     clear hm3 hr3
     have b2 := (uh HI).rr.badC
     go_wp2_with fail
     go_loopg [] 0 (fun _ wr => wr = w3)
     case atStart => rfl
     case round =>
      subst hrel
      go_wp2_with fail
      clear b2
      refine (rone_no b s p 125 true far _ (uh HI).rr (by omega) (Or.inl rfl)).mono ?_
      rintro e w3 ⟨rfl, hm3, hr3⟩
      have HJ := hide ((uh HI).moved hm3 hr3)
      clear HI c0 c1 c2 c3 c4 c5 f0 f1 f2 f3 f4 f5 d0 d1 d2 d3 d4 d5 g0 g1 g2 g3 g4 g5
      have HI := HJ
      clear HJ
      obtain ⟨⟨c0, c1, c2, c3, c4, c5⟩, f0, f1, f2, f3, f4, f5⟩ := (uh HI).cells
      obtain ⟨⟨d0, d1, d2, d3, d4, d5⟩, g0, g1, g2, g3, g4, g5⟩ := (uh HI).cells0
      simp only at c0 c1 c2 c3 c4 c5
      clear hm3 hr3
      go_wp2
      exact bodyPost_ret (v := .agg #[.string x, .int .i64 0, .int .u8 C, .bool false, .slice (some ⟨gg, 0, none⟩) (xs.length + 1) cap, .slice none 0 0]) (by simp [results, Tryz.results110, go_sem, d0, d1, d2, d3, d4, d5]) rfl (Or.inl ⟨p, uh HF, ⟨_, _, _, _, _, _, _, _, _, _, rfl⟩, ((uh HI).done _ _ _ _ _ _ rfl).1, _, ((uh HI).done _ _ _ _ _ _ rfl).2.1⟩)
    | inr yq =>
     obtain ⟨y, q2⟩ := yq
     have hnb2 := nameR_bd hm hn2
     have hpq2 := nextP_le hnb2.2.1
     have hgq2 := nextP_ge s q2
     have hpp2 := nextP_idem hnb2.2.1
     have HH : Hid (columnsR s (m1 + 1) = colsR s (s.size + 1 - q2) q2 (xs ++ [y])) := hide (by rw [A.out.2]; unfold headC; rw [hn2])
     go_wp2_with fail
     refine (rname_yes b s m far _ (uh HI).rr hs hm hmm hn2).mono ?_
     rintro e w3 ⟨rfl, hm3, hr3⟩
     have HJ := hide ((uh HI).moved hm3 hr3)
     clear HI c0 c1 c2 c3 c4 c5 f0 f1 f2 f3 f4 f5 d0 d1 d2 d3 d4 d5 g0 g1 g2 g3 g4 g5
     have HI := HJ
     clear HJ
     obtain ⟨⟨c0, c1, c2, c3, c4, c5⟩, f0, f1, f2, f3, f4, f5⟩ := (uh HI).cells
     obtain ⟨⟨d0, d1, d2, d3, d4, d5⟩, g0, g1, g2, g3, g4, g5⟩ := (uh HI).cells0
     simp only at c0 c1 c2 c3 c4 c5
     clear hm3 hr3
     clear hn2 b2
     have hN1 := lt_of_block (uh HI).r1
     go_wp2_with (at_builtin; refine wpList_append_lies _ (by rfl) _ _ _ (by rfl) w.heap.size 9 i0 _ 1 16 Tryz.underlying53 hi hz0 hz1 hz2 rfl (by decide) (.slice o1 l1 p1) xs.length (xs.map Value.string) (by rfl) ((uh HI).rows.co.alloc _) ⟨w3.heap.size, 0, none⟩ 1 1 [.string y] (by rfl) (by rfl) (World.news_of_block (cs := #[.string y]) (t := 9) (fr := (0, 0)) (heap_alloc_new w3 _)) (by simp [Value.oneCell']) (by decide) (by unfold maxLen; omega) (by omega) (by have := (uh HI).mv.size; simp; omega) (w3.heap.size + 1) (by simp) ?_; intro gg cap w7 hown7 hgrow7 hat7 hlt7; obtain ⟨hQ, hd1, hd2⟩ := (uh HI).pushC hgrow7 hown7; have HQ := hide hQ; clear hQ hown7 hgrow7 hat7 hlt7)
     clear HI c0 c1 c2 c3 c4 c5 f0 f1 f2 f3 f4 f5 d0 d1 d2 d3 d4 d5 g0 g1 g2 g3 g4 g5 hd1 hd2
     have HI := HQ
     clear HQ
     have hcells : xs.map Value.string ++ [.string y] = (xs ++ [y]).map Value.string := by simp
     have hlen1 : xs.length + 1 = (xs ++ [y]).length := by simp
     rw [hcells, hlen1] at HI
     rw [hlen1]
     generalize xs ++ [y] = xs at *
     clear hcells
     generalize hm3 : nextP s q2 = m3 at *
     have HM3 := hide hm3
     clear hm3
     obtain ⟨⟨c0, c1, c2, c3, c4, c5⟩, f0, f1, f2, f3, f4, f5⟩ := (uh HI).cells
     obtain ⟨⟨d0, d1, d2, d3, d4, d5⟩, g0, g1, g2, g3, g4, g5⟩ := (uh HI).cells0
     simp only at c0 c1 c2 c3 c4 c5
     cases h44 : inR s m3 44 44 with
     | true =>
      have hlt3 := inR_lt (by omega) h44
      have HX3 := hide (hv_yes h44 (by omega))
      have hB : columnsR s (m1 + 1) = headC s (nextP s (m3 + 1)) xs := by rw [uh HH, headC_comma hnb2.2.1 (by rw [uh HM3]; exact h44), uh HM3, headC_next (by omega)]
      have HB := hide hB
      clear hB
      go_wp2_with (go_at_call 137; refine (rhere_any _ _ m3 false _ _ (by exact (uh HI).rr)).mono ?_; rintro e w' ⟨rfl, j, rfl⟩; rw [uh HX3])
      refine (rone_yes b s m3 44 far _ ((uh HI).drewN _).rr hs (by omega) h44).mono ?_
      rintro e w3 ⟨rfl, hm3, hr3⟩
      have HJ := hide (((uh HI).drewN _).moved hm3 hr3)
      clear HI c0 c1 c2 c3 c4 c5 f0 f1 f2 f3 f4 f5 d0 d1 d2 d3 d4 d5 g0 g1 g2 g3 g4 g5
      have HI := HJ
      clear HJ
      obtain ⟨⟨c0, c1, c2, c3, c4, c5⟩, f0, f1, f2, f3, f4, f5⟩ := (uh HI).cells
      obtain ⟨⟨d0, d1, d2, d3, d4, d5⟩, g0, g1, g2, g3, g4, g5⟩ := (uh HI).cells0
      simp only at c0 c1 c2 c3 c4 c5
      clear hm3 hr3
      clear h44
      have hle : nextP s (m3 + 1) ≤ s.size := nextP_le (by omega)
      have hge := nextP_ge s (m3 + 1)
      go_wp2
      go_roundg (s.size + 1 - nextP s (m3 + 1))
      case measure => have := A.out.1; omega
      case rel => exact ⟨nextP s (m3 + 1), xs, _, rfl, hle, by omega, nextP_idem (by omega), uh HB, uh HI⟩
     | false =>
      have c44 := hv_ne (c := 44) (by omega) h44
      have HE : Hid (tableR s k = tabC s x C (if inR s m3 41 41 then .inr (xs, m3 + 1) else .inl m3)) := hide (by rw [uh HT1, uh HH, headC_end hnb2.2.1 (by rw [uh HM3]; exact h44), uh HM3])
      clear h44
      generalize hx3 : hv s m3 false = z3 at *
      have HX3 := hide hx3
      clear hx3
      go_wp2_with (go_at_call 137; refine (rhere_any _ _ m3 false _ _ (by exact (uh HI).rr)).mono ?_; rintro e w' ⟨rfl, j, rfl⟩; rw [uh HX3])
      cases h41 : inR s m3 41 41 with
      | false =>
       have HF : Hid (tableR s k = .inl m3) := hide (by rw [uh HE, h41]; rfl)
       refine (rone_no b s m3 41 false far _ ((uh HI).drewN _).rr (by omega) (Or.inr h41)).mono ?_
       rintro e w3 ⟨rfl, hm3, hr3⟩
       have HJ := hide (((uh HI).drewN _).moved hm3 hr3)
       clear HI c0 c1 c2 c3 c4 c5 f0 f1 f2 f3 f4 f5 d0 d1 d2 d3 d4 d5 g0 g1 g2 g3 g4 g5
       have HI := HJ
       clear HJ
       obtain ⟨⟨c0, c1, c2, c3, c4, c5⟩, f0, f1, f2, f3, f4, f5⟩ := (uh HI).cells
       obtain ⟨⟨d0, d1, d2, d3, d4, d5⟩, g0, g1, g2, g3, g4, g5⟩ := (uh HI).cells0
       simp only at c0 c1 c2 c3 c4 c5
       clear hm3 hr3
       clear h41
       go_wp2_with (go_at_call 137; refine (rhere_any _ _ m3 true far _ (by exact (uh HI).rr)).mono ?_; rintro e w' ⟨rfl, j, rfl⟩; rw [hv_bad])
       refine (rone_no b s m3 123 true far _ ((uh HI).drewN _).rr (by omega) (Or.inl rfl)).mono ?_
       rintro e w3 ⟨rfl, hm3, hr3⟩
       have HJ := hide (((uh HI).drewN _).moved hm3 hr3)
       clear HI c0 c1 c2 c3 c4 c5 f0 f1 f2 f3 f4 f5 d0 d1 d2 d3 d4 d5 g0 g1 g2 g3 g4 g5
       have HI := HJ
       clear HJ
       obtain ⟨⟨c0, c1, c2, c3, c4, c5⟩, f0, f1, f2, f3, f4, f5⟩ := (uh HI).cells
       obtain ⟨⟨d0, d1, d2, d3, d4, d5⟩, g0, g1, g2, g3, g4, g5⟩ := (uh HI).cells0
       simp only at c0 c1 c2 c3 c4 c5
       clear hm3 hr3
       have b2 := (uh HI).rr.badC
       go_wp2_with fail
       go_loopg [] 0 (fun _ wr => wr = w3)
       case atStart => rfl
       case round =>
        subst hrel
        go_wp2_with fail
        clear b2
        refine (rone_no b s m3 125 true far _ (uh HI).rr (by omega) (Or.inl rfl)).mono ?_
        rintro e w3 ⟨rfl, hm3, hr3⟩
        have HJ := hide ((uh HI).moved hm3 hr3)
        clear HI c0 c1 c2 c3 c4 c5 f0 f1 f2 f3 f4 f5 d0 d1 d2 d3 d4 d5 g0 g1 g2 g3 g4 g5
        have HI := HJ
        clear HJ
        obtain ⟨⟨c0, c1, c2, c3, c4, c5⟩, f0, f1, f2, f3, f4, f5⟩ := (uh HI).cells
        obtain ⟨⟨d0, d1, d2, d3, d4, d5⟩, g0, g1, g2, g3, g4, g5⟩ := (uh HI).cells0
        simp only at c0 c1 c2 c3 c4 c5
        clear hm3 hr3
        go_wp2
        exact bodyPost_ret (v := .agg #[.string x, .int .i64 0, .int .u8 C, .bool false, .slice (some ⟨gg, 0, none⟩) xs.length cap, .slice none 0 0]) (by simp [results, Tryz.results110, go_sem, d0, d1, d2, d3, d4, d5]) rfl (Or.inl ⟨m3, uh HF, ⟨_, _, _, _, _, _, _, _, _, _, rfl⟩, ((uh HI).done _ _ _ _ _ _ rfl).1, _, ((uh HI).done _ _ _ _ _ _ rfl).2.1⟩)
      | true =>
       have hlt3 := inR_lt (by omega) h41
       have HT2 : Hid (tableR s k = dropsR s (m3 + 1) ⟨x, true, 0, C, xs, 0, []⟩) := hide (by rw [uh HE, h41]; rfl)
       refine (rone_yes b s m3 41 far _ ((uh HI).drewN _).rr hs (by omega) h41).mono ?_
       rintro e w3 ⟨rfl, hm3, hr3⟩
       have HJ := hide (((uh HI).drewN _).moved hm3 hr3)
       clear HI c0 c1 c2 c3 c4 c5 f0 f1 f2 f3 f4 f5 d0 d1 d2 d3 d4 d5 g0 g1 g2 g3 g4 g5
       have HI := HJ
       clear HJ
       obtain ⟨⟨c0, c1, c2, c3, c4, c5⟩, f0, f1, f2, f3, f4, f5⟩ := (uh HI).cells
       obtain ⟨⟨d0, d1, d2, d3, d4, d5⟩, g0, g1, g2, g3, g4, g5⟩ := (uh HI).cells0
       simp only at c0 c1 c2 c3 c4 c5
       clear hm3 hr3
       clear h41
       have hk4 : nextP s (m3 + 1) ≤ s.size := nextP_le (by omega)
       have hi4 : nextP s (nextP s (m3 + 1)) = nextP s (m3 + 1) := nextP_idem (by omega)
       cases h92 : inR s (nextP s (m3 + 1)) 92 92 with
       | false =>
        have HT3 : Hid (tableR s k = bodyR s (nextP s (m3 + 1)) ⟨x, true, 0, C, xs, 0, []⟩) := hide (by rw [uh HT2]; unfold dropsR; rw [h92]; rfl)
        have c92 := hv_ne (c := 92) (by omega) h92
        clear h92
        generalize hx4 : hv s (nextP s (m3 + 1)) false = z4 at *
        have HX4 := hide hx4
        clear hx4
        go_wp2_with (go_at_call 137; refine (rhere_any _ _ (nextP s (m3 + 1)) false _ _ (by exact (uh HI).rr)).mono ?_; rintro e w' ⟨rfl, j, rfl⟩; rw [uh HX4])
        generalize hmb : nextP s (m3 + 1) = mb at *
        have HMB : Hid (nextP s mb = mb) := hide hi4
        have HM4 := hide hmb
        clear hmb
        cases h123 : inR s mb 123 123 with
        | false =>
         have HF : Hid (tableR s k = .inl mb) := hide (by rw [uh HT3]; unfold bodyR; rw [uh HMB, h123]; rfl)
         refine (rone_no b s mb 123 false _ _ ((uh HI).drewN _).rr (by omega) (Or.inr h123)).mono ?_
         rintro e w3 ⟨rfl, hm3, hr3⟩
         have HJ := hide (((uh HI).drewN _).moved hm3 hr3)
         clear HI c0 c1 c2 c3 c4 c5 f0 f1 f2 f3 f4 f5 d0 d1 d2 d3 d4 d5 g0 g1 g2 g3 g4 g5
         have HI := HJ
         clear HJ
         obtain ⟨⟨c0, c1, c2, c3, c4, c5⟩, f0, f1, f2, f3, f4, f5⟩ := (uh HI).cells
         obtain ⟨⟨d0, d1, d2, d3, d4, d5⟩, g0, g1, g2, g3, g4, g5⟩ := (uh HI).cells0
         simp only at c0 c1 c2 c3 c4 c5
         clear hm3 hr3
         clear h123
         have b2 := (uh HI).rr.badC
         go_wp2_with fail
         go_loopg [] 0 (fun _ wr => wr = w3)
         case atStart => rfl
         case round =>
          subst hrel
          go_wp2_with fail
          clear b2
          refine (rone_no b s mb 125 true far _ (uh HI).rr (by omega) (Or.inl rfl)).mono ?_
          rintro e w3 ⟨rfl, hm3, hr3⟩
          have HJ := hide ((uh HI).moved hm3 hr3)
          clear HI c0 c1 c2 c3 c4 c5 f0 f1 f2 f3 f4 f5 d0 d1 d2 d3 d4 d5 g0 g1 g2 g3 g4 g5
          have HI := HJ
          clear HJ
          obtain ⟨⟨c0, c1, c2, c3, c4, c5⟩, f0, f1, f2, f3, f4, f5⟩ := (uh HI).cells
          obtain ⟨⟨d0, d1, d2, d3, d4, d5⟩, g0, g1, g2, g3, g4, g5⟩ := (uh HI).cells0
          simp only at c0 c1 c2 c3 c4 c5
          clear hm3 hr3
          go_wp2
          exact bodyPost_ret (v := .agg #[.string x, .int .i64 0, .int .u8 C, .bool false, .slice (some ⟨gg, 0, none⟩) xs.length cap, .slice none 0 0]) (by simp [results, Tryz.results110, go_sem, d0, d1, d2, d3, d4, d5]) rfl (Or.inl ⟨mb, uh HF, ⟨_, _, _, _, _, _, _, _, _, _, rfl⟩, ((uh HI).done _ _ _ _ _ _ rfl).1, _, ((uh HI).done _ _ _ _ _ _ rfl).2.1⟩)
        | true =>
         have hltb := inR_lt (by omega) h123
         have HT4 : Hid (tableR s k = rulesR s (s.size + 1 - nextP s (mb + 1)) (nextP s (mb + 1)) ⟨x, true, 0, C, xs, 0, []⟩) := hide (by rw [uh HT3]; unfold bodyR; rw [uh HMB, h123, if_pos rfl, rulesR_next (by omega)])
         refine (rone_yes b s mb 123 _ _ ((uh HI).drewN _).rr hs (by omega) h123).mono ?_
         rintro e w3 ⟨rfl, hm3, hr3⟩
         have HJ := hide (((uh HI).drewN _).moved hm3 hr3)
         clear HI c0 c1 c2 c3 c4 c5 f0 f1 f2 f3 f4 f5 d0 d1 d2 d3 d4 d5 g0 g1 g2 g3 g4 g5
         have HI := HJ
         clear HJ
         obtain ⟨⟨c0, c1, c2, c3, c4, c5⟩, f0, f1, f2, f3, f4, f5⟩ := (uh HI).cells
         obtain ⟨⟨d0, d1, d2, d3, d4, d5⟩, g0, g1, g2, g3, g4, g5⟩ := (uh HI).cells0
         simp only at c0 c1 c2 c3 c4 c5
         clear hm3 hr3
         clear h123
         have b2 := (uh HI).rr.badC
         go_wp2_with fail
         clear b2
         go_loopg [] (s.size + 2 - nextP s (mb + 1)) (fun g wr => (∃ m rs vs rv, g = s.size + 2 - m ∧ m ≤ s.size ∧ rs.length ≤ m ∧ nextP s m = m ∧ vs.length = rs.length ∧ tableR s k = rulesR s (s.size + 1 - m) m { (⟨x, true, 0, C, xs, 0, []⟩ : PItem) with rules := rs } ∧ II b s m false (far || rs.any farRule) w wr w.heap.size (w.heap.size + 1) ⟨x, 0, C, false, .slice (some ⟨gg, 0, none⟩) xs.length cap, rv⟩ xs.length (xs.map Value.string) rs.length (rcells vs rs) (tlOf vs rs)) ∨ (g = 0 ∧ ∃ p far' ro rn rc nr' rc' tl', tableR s k = .inl p ∧ II b s p true far' w wr w.heap.size (w.heap.size + 1) ⟨x, 0, C, false, .slice (some ⟨gg, 0, none⟩) xs.length cap, .slice ro rn rc⟩ xs.length (xs.map Value.string) nr' rc' tl'))
         case atStart => exact Or.inl ⟨nextP s (mb + 1), [], [], _, rfl, nextP_le (by omega), by simp, nextP_idem (by omega), rfl, uh HT4, by simpa [rcells, tlOf] using uh HI⟩
         case round =>
          clear HI c0 c1 c2 c3 c4 c5 f0 f1 f2 f3 f4 f5 d0 d1 d2 d3 d4 d5 g0 g1 g2 g3 g4 g5 HT4
          rcases hrel with ⟨m, rs, vs, rv, hg, hm, hlen, hmm, hvs, hH, hI⟩ | ⟨hg, p, far', ro, rn, rc, nr', rc', tl', hH, hI⟩
          ·have HI := hide hI
           have A : Aside (gk = s.size + 2 - m ∧ tableR s k = rulesR s (s.size + 1 - m) m { (⟨x, true, 0, C, xs, 0, []⟩ : PItem) with rules := rs }) := ⟨hg, hH⟩
           clear hg hH hI
           obtain ⟨ro, rn, rcp, hrv⟩ := owns_form (uh HI).rows.ru
           simp only at hrv
           subst hrv
           obtain ⟨⟨c0, c1, c2, c3, c4, c5⟩, f0, f1, f2, f3, f4, f5⟩ := (uh HI).cells
           obtain ⟨⟨d0, d1, d2, d3, d4, d5⟩, g0, g1, g2, g3, g4, g5⟩ := (uh HI).cells0
           simp only at c0 c1 c2 c3 c4 c5
           have b2 := (uh HI).rr.badC
           cases h125 : inR s m 125 125 with
           | true =>
            have hltm := inR_lt (by omega) h125
            have HX := hide (hv_yes h125 (by omega))
            have HF : Hid (tableR s k = .inr ({ (⟨x, true, 0, C, xs, 0, []⟩ : PItem) with rules := rs }, m + 1)) := hide (by rw [A.out.2]; exact rulesR_close hm hmm h125)
            have H125 := hide h125
            clear h125
            go_wp2_with (go_at_call 137; refine (rhere_any _ _ m false _ _ (by exact (uh HI).rr)).mono ?_; rintro e w' ⟨rfl, j, rfl⟩; rw [uh HX])
            refine (rone_yes b s m 125 _ _ ((uh HI).drewN _).rr hs (by omega) (uh H125)).mono ?_
            rintro e w3 ⟨rfl, hm3, hr3⟩
            have HJ := hide (((uh HI).drewN _).moved hm3 hr3)
            clear HI c0 c1 c2 c3 c4 c5 f0 f1 f2 f3 f4 f5 d0 d1 d2 d3 d4 d5 g0 g1 g2 g3 g4 g5
            have HI := HJ
            clear HJ
            obtain ⟨⟨c0, c1, c2, c3, c4, c5⟩, f0, f1, f2, f3, f4, f5⟩ := (uh HI).cells
            obtain ⟨⟨d0, d1, d2, d3, d4, d5⟩, g0, g1, g2, g3, g4, g5⟩ := (uh HI).cells0
            simp only at c0 c1 c2 c3 c4 c5
            clear hm3 hr3
            clear b2
            go_wp2
            exact bodyPost_ret (v := .agg #[.string x, .int .i64 0, .int .u8 C, .bool false, .slice (some ⟨gg, 0, none⟩) xs.length cap, .slice ro rn rcp]) (by simp [results, Tryz.results110, go_sem, d0, d1, d2, d3, d4, d5]) rfl (Or.inr ⟨{ (⟨x, true, 0, C, xs, 0, []⟩ : PItem) with rules := rs }, m + 1, uh HF, _, _, _, _, _, _, vs, by simp [ricells, rmarks, rdrops], ((uh HI).done _ _ _ _ _ _ rfl).1, ((uh HI).done _ _ _ _ _ _ rfl).2.1, hvs, ((uh HI).done _ _ _ _ _ _ rfl).2.2⟩)
           | false =>
            have c125 := hv_ne (c := 125) (by omega) h125
            generalize hx : hv s m false = z at *
            have HX := hide hx
            clear hx
            have H125 := hide h125
            clear h125
            go_wp2_with (go_at_call 137; refine (rhere_any _ _ m false _ _ (by exact (uh HI).rr)).mono ?_; rintro e w' ⟨rfl, j, rfl⟩; rw [uh HX])
            cases hru : ruleR s m with
            | inl p =>
             have HF : Hid (tableR s k = .inl p) := hide (by rw [A.out.2]; exact rulesR_no hm hmm (uh H125) hru)
             refine (rrule_no b s m _ _ ((uh HI).drewN _).rr hs hm hmm hru).mono ?_
             rintro e w3 ⟨uo, un, uc, uz, far', rfl, hm3, hr3⟩
             have HJ := hide (((uh HI).drewN _).moved hm3 hr3)
             clear HI c0 c1 c2 c3 c4 c5 f0 f1 f2 f3 f4 f5 d0 d1 d2 d3 d4 d5 g0 g1 g2 g3 g4 g5
             have HI := HJ
             clear HJ
             obtain ⟨⟨c0, c1, c2, c3, c4, c5⟩, f0, f1, f2, f3, f4, f5⟩ := (uh HI).cells
             obtain ⟨⟨d0, d1, d2, d3, d4, d5⟩, g0, g1, g2, g3, g4, g5⟩ := (uh HI).cells0
             simp only at c0 c1 c2 c3 c4 c5
             clear hm3 hr3 hru b2
             have hN1 := lt_of_block (uh HI).r1
             go_wp2_with (at_builtin; refine wpList_append_lies _ (by rfl) _ _ _ (by rfl) w.heap.size 179 j0 _ 2 32 Tryz.underlying139 ki kz0 kz1 kz2 rfl (by decide) (.slice ro rn rcp) rs.length (rcells vs rs) (by rfl) (((uh HI).rows.ru.alloc _).alloc _) ⟨w3.heap.size + 1, 0, none⟩ 1 1 [.slice uo un uc, .int .i64 uz] (by rfl) (by rfl) (World.news_of_block (cs := #[.slice uo un uc, .int .i64 uz]) (t := 179) (fr := (0, 0)) (by have := heap_alloc_new (w3.alloc (.cells #[.slice uo un uc, .int .i64 uz] 179)) (.cells #[.slice uo un uc, .int .i64 uz] 179); simpa using this)) (by simp [Value.oneCell']) (by decide) (by unfold maxLen; omega) (by omega) (by have := (uh HI).mv.size; simp; omega) (w3.heap.size + 2) (by simp) ?_; intro gg cap w7 hown7 hgrow7 hat7 hlt7; obtain ⟨hQ, hd1, hd2⟩ := ((uh HI).alloc _).pushR (tl' := []) hgrow7 hown7 (fun x hx => by simp at hx); have HQ := hide hQ; clear hQ hown7 hgrow7 hat7 hlt7)
             go_roundg 0
             case measure => have := A.out.1; omega
             case rel => exact Or.inr ⟨rfl, p, far', _, _, _, _, _, _, uh HF, uh HQ⟩
            | inr rq =>
             obtain ⟨r, q⟩ := rq
             have hrb := ruleR_bd hm hru
             have hpq := nextP_le hrb.2
             have hgq := nextP_ge s q
             have HF : Hid (tableR s k = rulesR s (s.size + 1 - nextP s q) (nextP s q) { (⟨x, true, 0, C, xs, 0, []⟩ : PItem) with rules := rs ++ [r] }) := hide (by rw [A.out.2]; exact rulesR_step hm hmm (uh H125) hru)
             refine (rrule_yes b s m _ _ ((uh HI).drewN _).rr hs hm hmm hru).mono ?_
             rintro e w3 ⟨uo, un, uc, rfl, hm3, hr3, hte⟩
             rw [show (far || rs.any farRule || farRule r) = (far || (rs ++ [r]).any farRule) from by simp [Bool.or_assoc]] at hr3
             have HTE := hide (owns_base hte (Nat.le_trans (Nat.le_refl _) (by have := (uh HI).mv.size; exact this)))
             have HJ := hide (((uh HI).drewN _).moved hm3 hr3)
             clear HI c0 c1 c2 c3 c4 c5 f0 f1 f2 f3 f4 f5 d0 d1 d2 d3 d4 d5 g0 g1 g2 g3 g4 g5
             have HI := HJ
             clear HJ
             obtain ⟨⟨c0, c1, c2, c3, c4, c5⟩, f0, f1, f2, f3, f4, f5⟩ := (uh HI).cells
             obtain ⟨⟨d0, d1, d2, d3, d4, d5⟩, g0, g1, g2, g3, g4, g5⟩ := (uh HI).cells0
             simp only at c0 c1 c2 c3 c4 c5
             clear hm3 hr3 hru b2 hte
             have hN1 := lt_of_block (uh HI).r1
             go_wp2_with (at_builtin; refine wpList_append_lies _ (by rfl) _ _ _ (by rfl) w.heap.size 179 j0 _ 2 32 Tryz.underlying139 ki kz0 kz1 kz2 rfl (by decide) (.slice ro rn rcp) rs.length (rcells vs rs) (by rfl) (((uh HI).rows.ru.alloc _).alloc _) ⟨w3.heap.size + 1, 0, none⟩ 1 1 [.slice uo un uc, .int .i64 r.num] (by rfl) (by rfl) (World.news_of_block (cs := #[.slice uo un uc, .int .i64 r.num]) (t := 179) (fr := (0, 0)) (by have := heap_alloc_new (w3.alloc (.cells #[.slice uo un uc, .int .i64 r.num] 179)) (.cells #[.slice uo un uc, .int .i64 r.num] 179); simpa using this)) (by simp [Value.oneCell']) (by decide) (by unfold maxLen; omega) (by omega) (by have := (uh HI).mv.size; simp; omega) (w3.heap.size + 2) (by simp) ?_; intro gg cap w7 hown7 hgrow7 hat7 hlt7; obtain ⟨hQ, hd1, hd2⟩ := ((uh HI).alloc _).pushR (tl' := tlOf (vs ++ [.slice uo un uc]) (rs ++ [r])) hgrow7 hown7 (fun x hx => by rw [tlOf_push hvs] at hx; simp at hx; rcases hx with hx | rfl; exact ((uh HI).alloc _).rows.te x hx; exact (uh HTE).alloc _); have HQ := hide hQ; clear hQ hown7 hgrow7 hat7 hlt7)
             go_roundg (s.size + 2 - nextP s q)
             case measure => have := A.out.1; omega
             case rel =>
              refine Or.inl ⟨nextP s q, rs ++ [r], vs ++ [.slice uo un uc], .slice (some ⟨gg, 0, none⟩) (rs.length + 1) cap, rfl, hpq, by simp; omega, nextP_idem hrb.2, by simp [hvs], uh HF, ?_⟩
              have h1 := uh HQ
              rw [← rcells_push hvs] at h1
              rw [show (rs ++ [r]).length = rs.length + 1 by simp]
              exact h1
          ·have HI := hide hI
           have HF := hide hH
           clear hH hI hg
           obtain ⟨⟨c0, c1, c2, c3, c4, c5⟩, f0, f1, f2, f3, f4, f5⟩ := (uh HI).cells
           obtain ⟨⟨d0, d1, d2, d3, d4, d5⟩, g0, g1, g2, g3, g4, g5⟩ := (uh HI).cells0
           simp only at c0 c1 c2 c3 c4 c5
           have b2 := (uh HI).rr.badC
           go_wp2_with fail
           clear b2
           refine (rone_no b s p 125 true far' _ (uh HI).rr (by omega) (Or.inl rfl)).mono ?_
           rintro e w3 ⟨rfl, hm3, hr3⟩
           have HJ := hide ((uh HI).moved hm3 hr3)
           clear HI c0 c1 c2 c3 c4 c5 f0 f1 f2 f3 f4 f5 d0 d1 d2 d3 d4 d5 g0 g1 g2 g3 g4 g5
           have HI := HJ
           clear HJ
           obtain ⟨⟨c0, c1, c2, c3, c4, c5⟩, f0, f1, f2, f3, f4, f5⟩ := (uh HI).cells
           obtain ⟨⟨d0, d1, d2, d3, d4, d5⟩, g0, g1, g2, g3, g4, g5⟩ := (uh HI).cells0
           simp only at c0 c1 c2 c3 c4 c5
           clear hm3 hr3
           go_wp2
           exact bodyPost_ret (v := .agg #[.string x, .int .i64 0, .int .u8 C, .bool false, .slice (some ⟨gg, 0, none⟩) xs.length cap, .slice ro rn rc]) (by simp [results, Tryz.results110, go_sem, d0, d1, d2, d3, d4, d5]) rfl (Or.inl ⟨p, uh HF, ⟨_, _, _, _, _, _, _, _, _, _, rfl⟩, ((uh HI).done _ _ _ _ _ _ rfl).1, _, ((uh HI).done _ _ _ _ _ _ rfl).2.1⟩)
       | true =>
        have hlt4 := inR_lt (by omega) h92
        have HX4 := hide (hv_yes h92 (by omega))
        have b1 := (uh HI).rr.at
        have q1 := (uh HI).rr.free 1
        go_wp2_with (go_at_call 137; refine (rhere_any _ _ (nextP s (m3 + 1)) false _ _ (by exact (uh HI).rr)).mono ?_; rintro e w' ⟨rfl, j, rfl⟩; rw [uh HX4])
        cases hmk : marksR s (nextP s (m3 + 1) + 1) with
        | inl p =>
         have HF : Hid (tableR s k = .inl p) := hide (by rw [uh HT2]; unfold dropsR; rw [h92, if_pos rfl, hmk])
         clear h92
         refine (rmarks_no b s (nextP s (m3 + 1) + 1) far _ (((uh HI).drewN _).setAt1.set3 true).rr hs (by omega) hmk).mono ?_
         rintro e w3 ⟨rfl, hm3, hr3⟩
         have HJ := hide ((((uh HI).drewN _).setAt1.set3 true).moved hm3 hr3)
         clear HI c0 c1 c2 c3 c4 c5 f0 f1 f2 f3 f4 f5 d0 d1 d2 d3 d4 d5 g0 g1 g2 g3 g4 g5
         have HI := HJ
         clear HJ
         obtain ⟨⟨c0, c1, c2, c3, c4, c5⟩, f0, f1, f2, f3, f4, f5⟩ := (uh HI).cells
         obtain ⟨⟨d0, d1, d2, d3, d4, d5⟩, g0, g1, g2, g3, g4, g5⟩ := (uh HI).cells0
         simp only at c0 c1 c2 c3 c4 c5
         clear hm3 hr3
         clear hmk b1 q1
         go_wp2_with fail
         refine (rone_no b s p 123 true far _ ((uh HI).set1 0).rr (by omega) (Or.inl rfl)).mono ?_
         rintro e w3 ⟨rfl, hm3, hr3⟩
         have HJ := hide (((uh HI).set1 0).moved hm3 hr3)
         clear HI c0 c1 c2 c3 c4 c5 f0 f1 f2 f3 f4 f5 d0 d1 d2 d3 d4 d5 g0 g1 g2 g3 g4 g5
         have HI := HJ
         clear HJ
         obtain ⟨⟨c0, c1, c2, c3, c4, c5⟩, f0, f1, f2, f3, f4, f5⟩ := (uh HI).cells
         obtain ⟨⟨d0, d1, d2, d3, d4, d5⟩, g0, g1, g2, g3, g4, g5⟩ := (uh HI).cells0
         simp only at c0 c1 c2 c3 c4 c5
         clear hm3 hr3
         have b2 := (uh HI).rr.badC
         go_wp2_with fail
         go_loopg [] 0 (fun _ wr => wr = w3)
         case atStart => rfl
         case round =>
          subst hrel
          go_wp2_with fail
          clear b2
          refine (rone_no b s p 125 true far _ (uh HI).rr (by omega) (Or.inl rfl)).mono ?_
          rintro e w3 ⟨rfl, hm3, hr3⟩
          have HJ := hide ((uh HI).moved hm3 hr3)
          clear HI c0 c1 c2 c3 c4 c5 f0 f1 f2 f3 f4 f5 d0 d1 d2 d3 d4 d5 g0 g1 g2 g3 g4 g5
          have HI := HJ
          clear HJ
          obtain ⟨⟨c0, c1, c2, c3, c4, c5⟩, f0, f1, f2, f3, f4, f5⟩ := (uh HI).cells
          obtain ⟨⟨d0, d1, d2, d3, d4, d5⟩, g0, g1, g2, g3, g4, g5⟩ := (uh HI).cells0
          simp only at c0 c1 c2 c3 c4 c5
          clear hm3 hr3
          go_wp2
          exact bodyPost_ret (v := .agg #[.string x, .int .i64 0, .int .u8 C, .bool true, .slice (some ⟨gg, 0, none⟩) xs.length cap, .slice none 0 0]) (by simp [results, Tryz.results110, go_sem, d0, d1, d2, d3, d4, d5]) rfl (Or.inl ⟨p, uh HF, ⟨_, _, _, _, _, _, _, _, _, _, rfl⟩, ((uh HI).done _ _ _ _ _ _ rfl).1, _, ((uh HI).done _ _ _ _ _ _ rfl).2.1⟩)
        | inr vq =>
         obtain ⟨dd, q5⟩ := vq
         have HT3 : Hid (tableR s k = bodyR s q5 ⟨x, true, 0, C, xs, dd, []⟩) := hide (by rw [uh HT2]; unfold dropsR; rw [h92, if_pos rfl, hmk])
         have hdd : dd ≠ 0 := marksR_ne hmk
         have hq5 := marksR_bd (by omega) hmk
         clear h92
         refine (rmarks_yes b s (nextP s (m3 + 1) + 1) far _ (((uh HI).drewN _).setAt1.set3 true).rr hs (by omega) hmk).mono ?_
         rintro e w3 ⟨rfl, hm3, hr3⟩
         have HJ := hide ((((uh HI).drewN _).setAt1.set3 true).moved hm3 hr3)
         clear HI c0 c1 c2 c3 c4 c5 f0 f1 f2 f3 f4 f5 d0 d1 d2 d3 d4 d5 g0 g1 g2 g3 g4 g5
         have HI := HJ
         clear HJ
         obtain ⟨⟨c0, c1, c2, c3, c4, c5⟩, f0, f1, f2, f3, f4, f5⟩ := (uh HI).cells
         obtain ⟨⟨d0, d1, d2, d3, d4, d5⟩, g0, g1, g2, g3, g4, g5⟩ := (uh HI).cells0
         simp only at c0 c1 c2 c3 c4 c5
         clear hm3 hr3
         clear hmk b1 q1
         go_wp2_with fail
         have hmb5 : nextP s q5 ≤ s.size := nextP_le hq5.2
         generalize hmb : nextP s q5 = mb at *
         have HMB := hide hmb
         clear hmb
         cases h123 : inR s mb 123 123 with
         | false =>
          have HF : Hid (tableR s k = .inl mb) := hide (by rw [uh HT3]; unfold bodyR; rw [uh HMB, h123]; rfl)
          refine (rone_no b s mb 123 false _ _ ((uh HI).set1 dd).rr (by omega) (Or.inr h123)).mono ?_
          rintro e w3 ⟨rfl, hm3, hr3⟩
          have HJ := hide (((uh HI).set1 dd).moved hm3 hr3)
          clear HI c0 c1 c2 c3 c4 c5 f0 f1 f2 f3 f4 f5 d0 d1 d2 d3 d4 d5 g0 g1 g2 g3 g4 g5
          have HI := HJ
          clear HJ
          obtain ⟨⟨c0, c1, c2, c3, c4, c5⟩, f0, f1, f2, f3, f4, f5⟩ := (uh HI).cells
          obtain ⟨⟨d0, d1, d2, d3, d4, d5⟩, g0, g1, g2, g3, g4, g5⟩ := (uh HI).cells0
          simp only at c0 c1 c2 c3 c4 c5
          clear hm3 hr3
          clear h123
          have b2 := (uh HI).rr.badC
          go_wp2_with fail
          go_loopg [] 0 (fun _ wr => wr = w3)
          case atStart => rfl
          case round =>
           subst hrel
           go_wp2_with fail
           clear b2
           refine (rone_no b s mb 125 true far _ (uh HI).rr (by omega) (Or.inl rfl)).mono ?_
           rintro e w3 ⟨rfl, hm3, hr3⟩
           have HJ := hide ((uh HI).moved hm3 hr3)
           clear HI c0 c1 c2 c3 c4 c5 f0 f1 f2 f3 f4 f5 d0 d1 d2 d3 d4 d5 g0 g1 g2 g3 g4 g5
           have HI := HJ
           clear HJ
           obtain ⟨⟨c0, c1, c2, c3, c4, c5⟩, f0, f1, f2, f3, f4, f5⟩ := (uh HI).cells
           obtain ⟨⟨d0, d1, d2, d3, d4, d5⟩, g0, g1, g2, g3, g4, g5⟩ := (uh HI).cells0
           simp only at c0 c1 c2 c3 c4 c5
           clear hm3 hr3
           go_wp2
           exact bodyPost_ret (v := .agg #[.string x, .int .i64 ((dd : Nat) : Int), .int .u8 C, .bool true, .slice (some ⟨gg, 0, none⟩) xs.length cap, .slice none 0 0]) (by simp [results, Tryz.results110, go_sem, d0, d1, d2, d3, d4, d5]) rfl (Or.inl ⟨mb, uh HF, ⟨_, _, _, _, _, _, _, _, _, _, rfl⟩, ((uh HI).done _ _ _ _ _ _ rfl).1, _, ((uh HI).done _ _ _ _ _ _ rfl).2.1⟩)
         | true =>
          have hltb := inR_lt (by omega) h123
          have HT4 : Hid (tableR s k = rulesR s (s.size + 1 - nextP s (mb + 1)) (nextP s (mb + 1)) ⟨x, true, 0, C, xs, dd, []⟩) := hide (by rw [uh HT3]; unfold bodyR; rw [uh HMB, h123, if_pos rfl, rulesR_next (by omega)])
          refine (rone_yes b s mb 123 _ _ ((uh HI).set1 dd).rr hs (by omega) h123).mono ?_
          rintro e w3 ⟨rfl, hm3, hr3⟩
          have HJ := hide (((uh HI).set1 dd).moved hm3 hr3)
          clear HI c0 c1 c2 c3 c4 c5 f0 f1 f2 f3 f4 f5 d0 d1 d2 d3 d4 d5 g0 g1 g2 g3 g4 g5
          have HI := HJ
          clear HJ
          obtain ⟨⟨c0, c1, c2, c3, c4, c5⟩, f0, f1, f2, f3, f4, f5⟩ := (uh HI).cells
          obtain ⟨⟨d0, d1, d2, d3, d4, d5⟩, g0, g1, g2, g3, g4, g5⟩ := (uh HI).cells0
          simp only at c0 c1 c2 c3 c4 c5
          clear hm3 hr3
          clear h123
          have b2 := (uh HI).rr.badC
          go_wp2_with fail
          clear b2
          go_loopg [] (s.size + 2 - nextP s (mb + 1)) (fun g wr => (∃ m rs vs rv, g = s.size + 2 - m ∧ m ≤ s.size ∧ rs.length ≤ m ∧ nextP s m = m ∧ vs.length = rs.length ∧ tableR s k = rulesR s (s.size + 1 - m) m { (⟨x, true, 0, C, xs, dd, []⟩ : PItem) with rules := rs } ∧ II b s m false (far || rs.any farRule) w wr w.heap.size (w.heap.size + 1) ⟨x, ((dd : Nat) : Int), C, true, .slice (some ⟨gg, 0, none⟩) xs.length cap, rv⟩ xs.length (xs.map Value.string) rs.length (rcells vs rs) (tlOf vs rs)) ∨ (g = 0 ∧ ∃ p far' ro rn rc nr' rc' tl', tableR s k = .inl p ∧ II b s p true far' w wr w.heap.size (w.heap.size + 1) ⟨x, ((dd : Nat) : Int), C, true, .slice (some ⟨gg, 0, none⟩) xs.length cap, .slice ro rn rc⟩ xs.length (xs.map Value.string) nr' rc' tl'))
          case atStart => exact Or.inl ⟨nextP s (mb + 1), [], [], _, rfl, nextP_le (by omega), by simp, nextP_idem (by omega), rfl, uh HT4, by simpa [rcells, tlOf] using uh HI⟩
          case round =>
           clear HI c0 c1 c2 c3 c4 c5 f0 f1 f2 f3 f4 f5 d0 d1 d2 d3 d4 d5 g0 g1 g2 g3 g4 g5 HT4
           rcases hrel with ⟨m, rs, vs, rv, hg, hm, hlen, hmm, hvs, hH, hI⟩ | ⟨hg, p, far', ro, rn, rc, nr', rc', tl', hH, hI⟩
           ·have HI := hide hI
            have A : Aside (gk = s.size + 2 - m ∧ tableR s k = rulesR s (s.size + 1 - m) m { (⟨x, true, 0, C, xs, dd, []⟩ : PItem) with rules := rs }) := ⟨hg, hH⟩
            clear hg hH hI
            obtain ⟨ro, rn, rcp, hrv⟩ := owns_form (uh HI).rows.ru
            simp only at hrv
            subst hrv
            obtain ⟨⟨c0, c1, c2, c3, c4, c5⟩, f0, f1, f2, f3, f4, f5⟩ := (uh HI).cells
            obtain ⟨⟨d0, d1, d2, d3, d4, d5⟩, g0, g1, g2, g3, g4, g5⟩ := (uh HI).cells0
            simp only at c0 c1 c2 c3 c4 c5
            have b2 := (uh HI).rr.badC
            cases h125 : inR s m 125 125 with
            | true =>
             have hltm := inR_lt (by omega) h125
             have HX := hide (hv_yes h125 (by omega))
             have HF : Hid (tableR s k = .inr ({ (⟨x, true, 0, C, xs, dd, []⟩ : PItem) with rules := rs }, m + 1)) := hide (by rw [A.out.2]; exact rulesR_close hm hmm h125)
             have H125 := hide h125
             clear h125
             go_wp2_with (go_at_call 137; refine (rhere_any _ _ m false _ _ (by exact (uh HI).rr)).mono ?_; rintro e w' ⟨rfl, j, rfl⟩; rw [uh HX])
             refine (rone_yes b s m 125 _ _ ((uh HI).drewN _).rr hs (by omega) (uh H125)).mono ?_
             rintro e w3 ⟨rfl, hm3, hr3⟩
             have HJ := hide (((uh HI).drewN _).moved hm3 hr3)
             clear HI c0 c1 c2 c3 c4 c5 f0 f1 f2 f3 f4 f5 d0 d1 d2 d3 d4 d5 g0 g1 g2 g3 g4 g5
             have HI := HJ
             clear HJ
             obtain ⟨⟨c0, c1, c2, c3, c4, c5⟩, f0, f1, f2, f3, f4, f5⟩ := (uh HI).cells
             obtain ⟨⟨d0, d1, d2, d3, d4, d5⟩, g0, g1, g2, g3, g4, g5⟩ := (uh HI).cells0
             simp only at c0 c1 c2 c3 c4 c5
             clear hm3 hr3
             clear b2
             go_wp2
             exact bodyPost_ret (v := .agg #[.string x, .int .i64 ((dd : Nat) : Int), .int .u8 C, .bool true, .slice (some ⟨gg, 0, none⟩) xs.length cap, .slice ro rn rcp]) (by simp [results, Tryz.results110, go_sem, d0, d1, d2, d3, d4, d5]) rfl (Or.inr ⟨{ (⟨x, true, 0, C, xs, dd, []⟩ : PItem) with rules := rs }, m + 1, uh HF, _, _, _, _, _, _, vs, by simp [ricells, rmarks, rdrops, hdd], ((uh HI).done _ _ _ _ _ _ rfl).1, ((uh HI).done _ _ _ _ _ _ rfl).2.1, hvs, ((uh HI).done _ _ _ _ _ _ rfl).2.2⟩)
            | false =>
             have c125 := hv_ne (c := 125) (by omega) h125
             generalize hx : hv s m false = z at *
             have HX := hide hx
             clear hx
             have H125 := hide h125
             clear h125
             go_wp2_with (go_at_call 137; refine (rhere_any _ _ m false _ _ (by exact (uh HI).rr)).mono ?_; rintro e w' ⟨rfl, j, rfl⟩; rw [uh HX])
             cases hru : ruleR s m with
             | inl p =>
              have HF : Hid (tableR s k = .inl p) := hide (by rw [A.out.2]; exact rulesR_no hm hmm (uh H125) hru)
              refine (rrule_no b s m _ _ ((uh HI).drewN _).rr hs hm hmm hru).mono ?_
              rintro e w3 ⟨uo, un, uc, uz, far', rfl, hm3, hr3⟩
              have HJ := hide (((uh HI).drewN _).moved hm3 hr3)
              clear HI c0 c1 c2 c3 c4 c5 f0 f1 f2 f3 f4 f5 d0 d1 d2 d3 d4 d5 g0 g1 g2 g3 g4 g5
              have HI := HJ
              clear HJ
              obtain ⟨⟨c0, c1, c2, c3, c4, c5⟩, f0, f1, f2, f3, f4, f5⟩ := (uh HI).cells
              obtain ⟨⟨d0, d1, d2, d3, d4, d5⟩, g0, g1, g2, g3, g4, g5⟩ := (uh HI).cells0
              simp only at c0 c1 c2 c3 c4 c5
              clear hm3 hr3 hru b2
              have hN1 := lt_of_block (uh HI).r1
              go_wp2_with (at_builtin; refine wpList_append_lies _ (by rfl) _ _ _ (by rfl) w.heap.size 179 j0 _ 2 32 Tryz.underlying139 ki kz0 kz1 kz2 rfl (by decide) (.slice ro rn rcp) rs.length (rcells vs rs) (by rfl) (((uh HI).rows.ru.alloc _).alloc _) ⟨w3.heap.size + 1, 0, none⟩ 1 1 [.slice uo un uc, .int .i64 uz] (by rfl) (by rfl) (World.news_of_block (cs := #[.slice uo un uc, .int .i64 uz]) (t := 179) (fr := (0, 0)) (by have := heap_alloc_new (w3.alloc (.cells #[.slice uo un uc, .int .i64 uz] 179)) (.cells #[.slice uo un uc, .int .i64 uz] 179); simpa using this)) (by simp [Value.oneCell']) (by decide) (by unfold maxLen; omega) (by omega) (by have := (uh HI).mv.size; simp; omega) (w3.heap.size + 2) (by simp) ?_; intro gg cap w7 hown7 hgrow7 hat7 hlt7; obtain ⟨hQ, hd1, hd2⟩ := ((uh HI).alloc _).pushR (tl' := []) hgrow7 hown7 (fun x hx => by simp at hx); have HQ := hide hQ; clear hQ hown7 hgrow7 hat7 hlt7)
              go_roundg 0
              case measure => have := A.out.1; omega
              case rel => exact Or.inr ⟨rfl, p, far', _, _, _, _, _, _, uh HF, uh HQ⟩
             | inr rq =>
              obtain ⟨r, q⟩ := rq
              have hrb := ruleR_bd hm hru
              have hpq := nextP_le hrb.2
              have hgq := nextP_ge s q
              have HF : Hid (tableR s k = rulesR s (s.size + 1 - nextP s q) (nextP s q) { (⟨x, true, 0, C, xs, dd, []⟩ : PItem) with rules := rs ++ [r] }) := hide (by rw [A.out.2]; exact rulesR_step hm hmm (uh H125) hru)
              refine (rrule_yes b s m _ _ ((uh HI).drewN _).rr hs hm hmm hru).mono ?_
              rintro e w3 ⟨uo, un, uc, rfl, hm3, hr3, hte⟩
              rw [show (far || rs.any farRule || farRule r) = (far || (rs ++ [r]).any farRule) from by simp [Bool.or_assoc]] at hr3
              have HTE := hide (owns_base hte (Nat.le_trans (Nat.le_refl _) (by have := (uh HI).mv.size; exact this)))
              have HJ := hide (((uh HI).drewN _).moved hm3 hr3)
              clear HI c0 c1 c2 c3 c4 c5 f0 f1 f2 f3 f4 f5 d0 d1 d2 d3 d4 d5 g0 g1 g2 g3 g4 g5
              have HI := HJ
              clear HJ
              obtain ⟨⟨c0, c1, c2, c3, c4, c5⟩, f0, f1, f2, f3, f4, f5⟩ := (uh HI).cells
              obtain ⟨⟨d0, d1, d2, d3, d4, d5⟩, g0, g1, g2, g3, g4, g5⟩ := (uh HI).cells0
              simp only at c0 c1 c2 c3 c4 c5
              clear hm3 hr3 hru b2 hte
              have hN1 := lt_of_block (uh HI).r1
              go_wp2_with (at_builtin; refine wpList_append_lies _ (by rfl) _ _ _ (by rfl) w.heap.size 179 j0 _ 2 32 Tryz.underlying139 ki kz0 kz1 kz2 rfl (by decide) (.slice ro rn rcp) rs.length (rcells vs rs) (by rfl) (((uh HI).rows.ru.alloc _).alloc _) ⟨w3.heap.size + 1, 0, none⟩ 1 1 [.slice uo un uc, .int .i64 r.num] (by rfl) (by rfl) (World.news_of_block (cs := #[.slice uo un uc, .int .i64 r.num]) (t := 179) (fr := (0, 0)) (by have := heap_alloc_new (w3.alloc (.cells #[.slice uo un uc, .int .i64 r.num] 179)) (.cells #[.slice uo un uc, .int .i64 r.num] 179); simpa using this)) (by simp [Value.oneCell']) (by decide) (by unfold maxLen; omega) (by omega) (by have := (uh HI).mv.size; simp; omega) (w3.heap.size + 2) (by simp) ?_; intro gg cap w7 hown7 hgrow7 hat7 hlt7; obtain ⟨hQ, hd1, hd2⟩ := ((uh HI).alloc _).pushR (tl' := tlOf (vs ++ [.slice uo un uc]) (rs ++ [r])) hgrow7 hown7 (fun x hx => by rw [tlOf_push hvs] at hx; simp at hx; rcases hx with hx | rfl; exact ((uh HI).alloc _).rows.te x hx; exact (uh HTE).alloc _); have HQ := hide hQ; clear hQ hown7 hgrow7 hat7 hlt7)
              go_roundg (s.size + 2 - nextP s q)
              case measure => have := A.out.1; omega
              case rel =>
               refine Or.inl ⟨nextP s q, rs ++ [r], vs ++ [.slice uo un uc], .slice (some ⟨gg, 0, none⟩) (rs.length + 1) cap, rfl, hpq, by simp; omega, nextP_idem hrb.2, by simp [hvs], uh HF, ?_⟩
               have h1 := uh HQ
               rw [← rcells_push hvs] at h1
               rw [show (rs ++ [r]).length = rs.length + 1 by simp]
               exact h1
           ·have HI := hide hI
            have HF := hide hH
            clear hH hI hg
            obtain ⟨⟨c0, c1, c2, c3, c4, c5⟩, f0, f1, f2, f3, f4, f5⟩ := (uh HI).cells
            obtain ⟨⟨d0, d1, d2, d3, d4, d5⟩, g0, g1, g2, g3, g4, g5⟩ := (uh HI).cells0
            simp only at c0 c1 c2 c3 c4 c5
            have b2 := (uh HI).rr.badC
            go_wp2_with fail
            clear b2
            refine (rone_no b s p 125 true far' _ (uh HI).rr (by omega) (Or.inl rfl)).mono ?_
            rintro e w3 ⟨rfl, hm3, hr3⟩
            have HJ := hide ((uh HI).moved hm3 hr3)
            clear HI c0 c1 c2 c3 c4 c5 f0 f1 f2 f3 f4 f5 d0 d1 d2 d3 d4 d5 g0 g1 g2 g3 g4 g5
            have HI := HJ
            clear HJ
            obtain ⟨⟨c0, c1, c2, c3, c4, c5⟩, f0, f1, f2, f3, f4, f5⟩ := (uh HI).cells
            obtain ⟨⟨d0, d1, d2, d3, d4, d5⟩, g0, g1, g2, g3, g4, g5⟩ := (uh HI).cells0
            simp only at c0 c1 c2 c3 c4 c5
            clear hm3 hr3
            go_wp2
            exact bodyPost_ret (v := .agg #[.string x, .int .i64 ((dd : Nat) : Int), .int .u8 C, .bool true, .slice (some ⟨gg, 0, none⟩) xs.length cap, .slice ro rn rc]) (by simp [results, Tryz.results110, go_sem, d0, d1, d2, d3, d4, d5]) rfl (Or.inl ⟨p, uh HF, ⟨_, _, _, _, _, _, _, _, _, _, rfl⟩, ((uh HI).done _ _ _ _ _ _ rfl).1, _, ((uh HI).done _ _ _ _ _ _ rfl).2.1⟩)
end Go.Proofs.YthnggjaecngbiaaGreatDoor
