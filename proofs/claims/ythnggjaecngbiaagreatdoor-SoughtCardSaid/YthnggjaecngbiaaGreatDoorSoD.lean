import Derived.Test.YthnggjaecngbiaaGreatDoorSoA
namespace Go.Proofs.YthnggjaecngbiaaGreatDoor
open Go.RowKit

set_option maxRecDepth 100000 in
set_option maxHeartbeats 6400000 in
theorem soughtLaw_any (rv : Value) (raw : List RawR) (a0 b0 : Int) (w : World) (hraw : RawRs w rv raw) (hrb : ∀ r ∈ raw, r.ok) (ha0 : I64 a0) (hb0 : I64 b0) (ht : Tab w) :
    Calls Tryz.prog 9 #[rv, .int .i64 a0, .int .i64 b0] w fun e w' => e = .returned (.bool true) ∧ Below w.heap.size w w' := by
  obtain ⟨ro, rc, rfl⟩ := hraw.form
  have HT := hide ht
  have HR := hide hraw
  have HRB := hide hrb
  have hrl := hraw.len
  unfold maxLen at hrl
  clear ht hraw hrb
  obtain ⟨R, hR⟩ : ∃ R, R = raw.take 8 := ⟨_, rfl⟩
  have hR8 : R.length ≤ 8 := by rw [hR, List.length_take]; omega
  have hRl : R.length ≤ raw.length := by rw [hR, List.length_take]; omega
  have hRm : R.length = min 8 raw.length := by rw [hR, List.length_take]
  have HRR : Hid (∀ j (h : j < R.length), raw[j]? = some R[j]) := hide (fun j h => by
    subst hR
    rw [List.getElem_take, List.getElem?_eq_getElem])
  clear hR
  go_enter Tryz.func9, Tryz.ntmps9
  go_wp2_with fail
  refine (sought_any _ (unhide HT)).mono ?_
  rintro e w2 ⟨rfl, hb2⟩
  have HB2 := hide hb2
  clear hb2
  have HS0 : Hid ((⟨#[105, 110, 32, 120, 59, 105, 110, 32, 121, 59, 116, 97, 98, 108, 101, 32, 116, 32, 78, 40, 120, 44, 121, 41, 123]⟩ : ByteArray) = ⟨(txtS R 0).toArray⟩) := hide (by
    apply ByteArray.ext
    apply Array.toList_inj.1
    simp [txtS, txtM, textM, headM]
    decide)
  go_wp2_with fail
  rw [unhide HS0]
  go_loopg [8, 9] R.length (fun g sv iv wr => ∃ j : Nat, j ≤ R.length ∧ g = R.length - j ∧ iv = .int .i64 (j : Int) ∧ sv = .string ⟨(txtS R j).toArray⟩ ∧ Below w2.heap.size w2 wr)
  case atStart => exact ⟨0, by omega, rfl, rfl, rfl, Below.refl _ _⟩
  case round =>
    obtain ⟨j, hj, hg, rfl, rfl, hbr⟩ := hrel
    have A : Aside (gk = R.length - j ∧ Below w2.heap.size w2 wr) := ⟨hg, hbr⟩
    clear hg
    have htl := txtS_len (j := j) hR8
    have HTS := hide (fun h => txtS_succ (R := R) (j := j) h)
    obtain ⟨T, hT⟩ : ∃ T : ByteArray, (⟨(txtS R j).toArray⟩ : ByteArray) = T := ⟨_, rfl⟩
    have hTl : T.size ≤ 900 := by rw [← hT]; show (txtS R j).toArray.size ≤ _; rw [List.size_toArray]; exact htl
    have HTT : Hid (T.data.toList = txtS R j) := hide (by rw [← hT])
    rw [hT]
    clear htl
    have hsz := hbr.size
    by_cases hlt : j < R.length
    · have hjl : (j : Int) < raw.length := by omega
      have hj8 : (j : Int) < 8 := by omega
      rcases (unhide HR) with ⟨h0, _⟩ | ⟨g2, off2, cap2, hv2, hc2, hm2, hgl2, hx2⟩
      · subst h0; simp at hjl; omega
      simp only [Value.slice.injEq] at hv2
      obtain ⟨rfl, _, rfl⟩ := hv2
      obtain ⟨k0, k1, k2, k3, k4⟩ := hx2 j _ (unhide HRR j hlt)
      have hbw := below_after (unhide HB2) hbr
      rw [← hbw.cell (p := ⟨g2, off2 + j * 5, none⟩) hgl2] at k0
      rw [← hbw.cell (p := ⟨g2, off2 + j * 5 + 1, none⟩) hgl2] at k1
      rw [← hbw.cell (p := ⟨g2, off2 + j * 5 + 2, none⟩) hgl2] at k2
      rw [← hbw.cell (p := ⟨g2, off2 + j * 5 + 3, none⟩) hgl2] at k3
      rw [← hbw.cell (p := ⟨g2, off2 + j * 5 + 4, none⟩) hgl2] at k4
      have HTX := hide (unhide HTS hlt)
      have hro := unhide HRB R[j] (List.mem_of_getElem? (unhide HRR j hlt))
      generalize R[j] = r at *
      obtain ⟨x, y, u, v, n⟩ := r
      obtain ⟨⟨hx0, hx1⟩, ⟨hy0, hy1⟩, ⟨hu0, hu1⟩, ⟨hv0, hv1⟩, ⟨hn0, hn1⟩⟩ := hro
      simp only at k0 k1 k2 k3 k4 HTX hx0 hx1 hy0 hy1 hu0 hu1 hv0 hv1 hn0 hn1
      clear HTS hx2 hc2 hm2 hbw hT
      obtain ⟨wx, hwx⟩ : ∃ wx, wx = wr.alloc (.cells #[.int .i64 x, .int .i64 y, .int .i64 u, .int .i64 v, .int .i64 n] 62) := ⟨_, rfl⟩
      have hbx : Below wr.heap.size wr wx := by rw [hwx]; exact (Below.refl _ wr).alloc (Nat.le_refl _) _
      have hNx : wx.heap[wr.heap.size]? = some (.cells #[.int .i64 x, .int .i64 y, .int .i64 u, .int .i64 v, .int .i64 n] 62) := by rw [hwx]; exact alloc_last wr _
      have HNX := hide hNx
      have HBX := hide hbx
      obtain ⟨c0, c1, c2, c3, _⟩ := box5 hNx
      have hl1 := testM_len x y
      have hl2 := testM_len u v
      obtain ⟨D1, hD1⟩ : ∃ D : ByteArray, (⟨(testOut (testM x y)).toArray⟩ : ByteArray) = D := ⟨_, rfl⟩
      obtain ⟨D2, hD2⟩ : ∃ D : ByteArray, (⟨(testOut (testM u v)).toArray⟩ : ByteArray) = D := ⟨_, rfl⟩
      have hs1 : D1.size ≤ 20 := by rw [← hD1]; show (testOut (testM x y)).toArray.size ≤ _; rw [List.size_toArray]; exact hl1
      have hs2 : D2.size ≤ 20 := by rw [← hD2]; show (testOut (testM u v)).toArray.size ≤ _; rw [List.size_toArray]; exact hl2
      have HD1 : Hid (D1.data.toList = testOut (testM x y)) := hide (by rw [← hD1])
      have HD2 : Hid (D2.data.toList = testOut (testM u v)) := hide (by rw [← hD2])
      have E1 := hide hD1
      have E2 := hide hD2
      clear hNx hbx hl1 hl2 hD1 hD2 hbr
      have HTXT : Hid (⟨(txtS R (j + 1)).toArray⟩ = T ++ D1 ++ (⟨#[44]⟩ : ByteArray) ++ D2 ++ (⟨#[61, 48, 59]⟩ : ByteArray)) := hide (by
        apply ByteArray.ext
        apply Array.toList_inj.1
        simp [unhide HTX, unhide HTT, unhide HD1, unhide HD2])
      clear HTX HTT HD1 HD2
      have q0 : ¬ 9223372036854775807 < T.size + D1.size := by omega
      have q1 : ¬ 9223372036854775807 < T.size + D1.size + 1 := by omega
      have q1b : ¬ 9223372036854775807 ≤ T.size + D1.size := by omega
      have q1c : ¬ 9223372036854775806 < T.size + D1.size := by omega
      have q2 : ¬ 9223372036854775807 < T.size + D1.size + 1 + D2.size := by omega
      have q3 : ¬ 9223372036854775807 < T.size + D1.size + 1 + D2.size + 3 := by omega
      have q3c : ¬ 9223372036854775804 < T.size + D1.size + 1 + D2.size := by omega
      go_wp2_with fail
      rw [← hwx]
      clear hwx k0 k1 k2 k3 k4
      go_wp2_with fail
      go_region_held3 (fun w' => w'.cell? ⟨wr.heap.size, 0, none⟩ = some (.int .i64 x) ∧ w'.cell? ⟨wr.heap.size, 1, none⟩ = some (.int .i64 y) ∧ w'.cell? ⟨wr.heap.size, 2, none⟩ = some (.int .i64 u) ∧ w'.cell? ⟨wr.heap.size, 3, none⟩ = some (.int .i64 v)) (go_keep) (first | (go_at_call_of 25 x; refine (ktest_any x y _ hx0 hx1 hy0 hy1).mono ?_; rintro e w5 ⟨rfl, hb5⟩; rw [unhide E1]; have HB5 := hide (below_after (unhide HBX) (below_of_drew hb5)); have HN5 := hide (((below_of_drew hb5).block _ (lt_of_block (unhide HNX))).trans (unhide HNX)); obtain ⟨d0, d1, d2, d3, _⟩ := box5 (unhide HN5); clear hb5) | (go_at_call_of 25 u; refine (ktest_any u v _ hu0 hu1 hv0 hv1).mono ?_; rintro e w6 ⟨rfl, hb6⟩; rw [unhide E2]; have HB6 := hide (below_after (unhide HB5) hb6); have HN6 := hide ((hb6.block _ (lt_of_block (unhide HN5))).trans (unhide HN5)); obtain ⟨e0, e1, e2, e3, _⟩ := box5 (unhide HN6); clear hb6))
      · clear c0 c1 c2 c3 d0 d1 d2 d3 e0 e1 e2 e3
        go_wp2_with fail
        go_roundg (R.length - (j + 1))
        case measure => have := A.out.1; omega
        case rel => exact ⟨j + 1, by omega, rfl, by go_num, by rw [unhide HTXT], below_after A.out.2 (unhide HB6)⟩
    · have hje : j = R.length := by omega
      have HB3 := hide (below_after (unhide HB2) A.out.2)
      have HPO : Hid (planOf (T ++ (⟨#[125]⟩ : ByteArray)) = .inr (planS R)) := hide (by
        rw [← planOf_S hR8]
        congr 1
        apply ByteArray.ext
        apply Array.toList_inj.1
        simp [unhide HTT, hje])
      clear hT HTT HTS A hbr
      have hsz : (T ++ (⟨#[125]⟩ : ByteArray)).size ≤ maxLen := by
        rw [ByteArray.size_append]
        show T.size + 1 ≤ 9223372036854775807
        omega
      have HSZ := hide hsz
      clear hsz
      have hway : ((j : Int) < raw.length ∧ ¬ (j : Int) < 8) ∨ ¬ (j : Int) < raw.length := by omega
      rcases hway with ⟨hjr, hj8⟩ | hjr
      all_goals
        go_wp2_with fail
        refine (new_any _ _ (unhide HSZ)).mono ?_
        rintro e w3 (⟨n9, c9, hp9, _⟩ | ⟨its, g, hp9, rfl, hb3, _, hpl⟩)
        · rw [unhide HPO] at hp9
          cases hp9
        rw [unhide HPO] at hp9
        obtain rfl := Sum.inr.inj hp9
        have HB4 := hide (below_after (unhide HB3) hb3)
        have HPL := hide hpl
        clear hp9 hb3 hpl
        go_wp2_with fail
        refine (pick_any a0 61 _ (by omega) (by omega) ha0.1 ha0.2).mono ?_
        rintro e w9 ⟨rfl, hw9⟩
        rw [hw9]
        clear hw9 w9
        have hpa : pickP a0 61 < 61 := Nat.mod_lt _ (by omega)
        generalize pickP a0 61 = pa at *
        go_wp2_with fail
        refine (pick_any b0 61 _ (by omega) (by omega) hb0.1 hb0.2).mono ?_
        rintro e w9 ⟨rfl, hw9⟩
        rw [hw9]
        clear hw9 w9
        have hpb : pickP b0 61 < 61 := Nat.mod_lt _ (by omega)
        generalize pickP b0 61 = pb at *
        go_wp2_with fail
        have hxr : InRg ((pa : Int) - 30) := ⟨by omega, by omega⟩
        have hyr : InRg ((pb : Int) - 30) := ⟨by omega, by omega⟩
        generalize (pa : Int) - 30 = x at *
        generalize (pb : Int) - 30 = y at *
        have hba : Below w3.heap.size w3 (w3.alloc (.cells #[.int .i64 x, .int .i64 y] 3)) := (Below.refl _ w3).alloc (Nat.le_refl _) _
        refine (evalS_any g R _ x y hxr hyr _ ((unhide HPL).below hba) (pairS x y)).mono ?_
        rintro e w5 ⟨go, gc, rfl, hb5, hgo, v0, v1⟩
        have HPL5 := hide (((unhide HPL).below hba).below hb5)
        have HB5 := hide (below_after (below_after (unhide HB4) hba) hb5)
        have HC5 : Hid (∀ w', Below w5.heap.size w5 w' → go < w'.heap.size ∧ w'.cell? ⟨go, 0, none⟩ = some (.int .i64 0) ∧ w'.cell? ⟨go, 1, none⟩ = some (.int .i64 (countS R x y : Int))) := hide (fun w' hb' => ⟨Nat.lt_of_lt_of_le hgo hb'.size, (hb'.cell (p := ⟨go, 0, none⟩) hgo).trans v0, (hb'.cell (p := ⟨go, 1, none⟩) hgo).trans v1⟩)
        have hcn := countS_len R x y hR8
        clear hba hb5 v0 v1 hgo
        go_wp2_with fail
        refine (gap_any g (planS R) nmT _ (unhide HPL5)).mono ?_
        rintro e w6 ⟨lo, lc, rfl, hb6, ho6⟩
        rw [leastS_ans] at ho6 ⊢
        simp only at ho6 ⊢
        have HB6 := hide hb6
        have HO6 := hide (SlAt.of_owns ho6)
        clear hb6 ho6
        go_wp2_with fail
        refine (overlap_any g (planS R) nmT _ ((unhide HPL5).below (unhide HB6))).mono ?_
        rintro e w7 ⟨ko, kc, rfl, hb7, ho7⟩
        rw [leastS_ans] at ho7 ⊢
        simp only at ho7 ⊢
        have HB7 := hide (below_after (unhide HB6) hb7)
        have HO7 := hide (SlAt.of_owns ho7)
        have HO67 := hide ((unhide HO6).below hb7)
        have HB07 := hide (below_after (unhide HB5) (below_after (unhide HB6) hb7))
        clear hb7 ho7
        have HF1 := hide (fun (w' : World) (hb' : Below w7.heap.size w7 w') => found_any g R lo lc false x y hxr hyr hR8 w' ((unhide HPL5).below (below_after (unhide HB7) hb')) ((unhide HO67).below hb'))
        have HF2 := hide (fun (w' : World) (hb' : Below w7.heap.size w7 w') => found_any g R ko kc true x y hxr hyr hR8 w' ((unhide HPL5).below (below_after (unhide HB7) hb')) ((unhide HO7).below hb'))
        obtain ⟨c, hc⟩ : ∃ c, countS R x y = c := ⟨_, rfl⟩
        have e1 : isSought false c = ((c : Int) == 0) := by
          rw [Bool.eq_iff_iff]
          simp [isSought]
        have e2 : isSought true c = decide ((1 : Int) < c) := by
          rw [Bool.eq_iff_iff]
          simp [isSought]
          omega
        rw [hc] at HF1 HF2 HC5 hcn
        rw [e1] at HF1
        rw [e2] at HF2
        generalize leastP colsS (rulesS R) false 2 [] = L1 at *
        generalize leastP colsS (rulesS R) true 2 [] = L2 at *
        obtain ⟨n1, hn1⟩ : ∃ n1, (L1.getD []).length = n1 := ⟨_, rfl⟩
        obtain ⟨n2, hn2⟩ : ∃ n2, (L2.getD []).length = n2 := ⟨_, rfl⟩
        rw [hn1] at HF1 ⊢
        rw [hn2] at HF2 ⊢
        generalize L1.isSome = s1 at *
        generalize L2.isSome = s2 at *
        obtain ⟨hgo, v0, v1⟩ := unhide HC5 _ (unhide HB7)
        clear hc e1 e2 hn1 hn2
        go_wp2_with fail
        refine (unhide HF1 _ (Below.refl _ _)).mono ?_
        rintro e w8 ⟨rfl, hb8⟩
        obtain ⟨hgo, v0, v1⟩ := unhide HC5 _ (below_after (unhide HB7) hb8)
        have HB8 := hide hb8
        have HB08 := hide (below_after (unhide HB07) hb8)
        clear hb8
        go_wp2_with fail
        refine (unhide HF2 _ (unhide HB8)).mono ?_
        rintro e w9 ⟨rfl, hb9⟩
        have HB9 := hide (below_after (unhide HB08) hb9)
        clear hb9 v0 v1
        go_wp2_with fail
        go_ret
        exact ⟨rfl, unhide HB9⟩
end Go.Proofs.YthnggjaecngbiaaGreatDoor
