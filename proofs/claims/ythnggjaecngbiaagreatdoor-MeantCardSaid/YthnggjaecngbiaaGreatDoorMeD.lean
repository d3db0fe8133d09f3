import Derived.Deep.RegionHeld3
import Derived.Test.YthnggjaecngbiaaGreatDoorMeC
namespace Go.Proofs.YthnggjaecngbiaaGreatDoor
open Go.RowKit

set_option maxRecDepth 100000 in
set_option maxHeartbeats 6400000 in
theorem meant_any (rv : Value) (raw : List RawR) (policy a0 b0 : Int) (w : World) (hraw : RawRs w rv raw) (hrb : ∀ r ∈ raw, r.ok) (hp0 : I64 policy) (ha0 : I64 a0) (hb0 : I64 b0) (ht : Tab w) :
    Calls Tryz.prog 8 #[rv, .int .i64 policy, .int .i64 a0, .int .i64 b0] w fun e w' => e = .returned (.bool true) ∧ Below w.heap.size w w' := by
  obtain ⟨ro, rc, rfl⟩ := hraw.form
  have HT := hide ht
  have HR := hide hraw
  have HRB := hide hrb
  have hrl := hraw.len
  unfold maxLen at hrl
  clear ht hraw hrb
  go_enter Tryz.func8, Tryz.ntmps8
  go_wp2_with fail
  refine (begun_any _ (unhide HT)).mono ?_
  rintro e w1 ⟨rfl, hb1⟩
  have HB1 := hide hb1
  clear hb1
  go_wp2_with fail
  refine (pick_any policy 5 _ (by omega) (by omega) hp0.1 hp0.2).mono ?_
  rintro e w9 ⟨rfl, hw9⟩
  rw [hw9]
  clear hw9 w9
  have hpk : pickP policy 5 < 5 := Nat.mod_lt _ (by omega)
  generalize pickP policy 5 = q at *
  have hcv := kconv_one (((⟨#[85, 70, 83, 78, 80]⟩ : ByteArray)[q]'(by show q < 5; omega)).toNat : Int) w1 _ rfl
  go_wp2_with fail
  have hpol : ((((⟨#[85, 70, 83, 78, 80]⟩ : ByteArray)[q]'(by show q < 5; omega)).toNat : Nat) : Int) = polM q ∧ isPol (polM q) = true := by
    have key : ∀ k : Fin 5, ((((⟨#[85, 70, 83, 78, 80]⟩ : ByteArray)[k.val]'(by have := k.isLt; show k.val < 5; omega)).toNat : Nat) : Int) = polM k.val ∧ isPol (polM k.val) = true := by decide
    exact key ⟨q, hpk⟩
  rw [hpol.1]
  have hip := hpol.2
  clear hcv hpol
  generalize polM q = pol at *
  have HB2 := hide (below_after (unhide HB1) ((Below.refl _ w1).alloc (Nat.le_refl _) (.cells #[.int .u8 pol] 5)))
  refine (small_any a0 _ ha0.1 ha0.2).mono ?_
  rintro e w9 ⟨rfl, hw9⟩
  rw [hw9]
  clear hw9 w9
  go_wp2_with fail
  refine (small_any b0 _ hb0.1 hb0.2).mono ?_
  rintro e w9 ⟨rfl, hw9⟩
  rw [hw9]
  clear hw9 w9
  have ha := smallP_bd a0
  have hb := smallP_bd b0
  generalize smallP a0 = a at *
  generalize smallP b0 = b at *
  clear ha0 hb0
  obtain ⟨R, hR⟩ : ∃ R, R = raw.take 8 := ⟨_, rfl⟩
  have hR8 : R.length ≤ 8 := by rw [hR, List.length_take]; omega
  have hRl : R.length ≤ raw.length := by rw [hR, List.length_take]; omega
  have hRm : R.length = min 8 raw.length := by rw [hR, List.length_take]
  have HRR : Hid (∀ j (h : j < R.length), raw[j]? = some R[j]) := hide (fun j h => by
    subst hR
    rw [List.getElem_take, List.getElem?_eq_getElem])
  clear hR
  have HS0 : Hid ((⟨#[105, 110, 32, 120, 59, 105, 110, 32, 121, 59, 116, 97, 98, 108, 101, 32, 116, 32]⟩ ++ ⟨#[u8 pol]⟩ ++ ⟨#[40, 120, 44, 121, 41, 123]⟩ : ByteArray) = ⟨(txtM pol R 0).toArray⟩) := hide (by
    apply ByteArray.ext
    apply Array.toList_inj.1
    simp [txtM, textM, headM])
  rw [unhide HS0]
  obtain ⟨w2, hw2⟩ : ∃ w2, w2 = w1.alloc (.cells #[.int .u8 pol] 5) := ⟨_, rfl⟩
  rw [← hw2] at HB2 ⊢
  clear hw2 HS0 HB1
  obtain ⟨i0, hi, hz0, hz1, hz2⟩ := info_parts Tryz.info_int
  go_wp2_with fail
  go_loopg [11, 12, 13] R.length (fun g sv mv iv wr => ∃ j : Nat, j ≤ R.length ∧ g = R.length - j ∧ iv = .int .i64 (j : Int) ∧ sv = .string ⟨(txtM pol R j).toArray⟩ ∧ Below w2.heap.size w2 wr ∧ wr.ownsRow w2.heap.size 3 1 mv (nsM R a b j).length (ints (nsM R a b j)))
  case atStart => exact ⟨0, by omega, rfl, rfl, rfl, Below.refl _ _, World.ownsRow_nil _ _ _ _⟩
  case round =>
    obtain ⟨j, hj, hg, rfl, rfl, hbr, hown⟩ := hrel
    have hml := nsM_len R a b j
    have A : Aside (gk = R.length - j ∧ Below w2.heap.size w2 wr ∧ wr.ownsRow w2.heap.size 3 1 u12 (nsM R a b j).length (ints (nsM R a b j))) := ⟨hg, hbr, hown⟩
    clear hg hown
    have htl := txtM_len (pol := pol) (j := j) hR8
    have HTS := hide (fun h => txtM_succ (pol := pol) (R := R) (j := j) h)
    obtain ⟨T, hT⟩ : ∃ T : ByteArray, (⟨(txtM pol R j).toArray⟩ : ByteArray) = T := ⟨_, rfl⟩
    have hTl : T.size ≤ 900 := by rw [← hT]; show (txtM pol R j).toArray.size ≤ _; rw [List.size_toArray]; exact htl
    have HTT : Hid (T.data.toList = txtM pol R j) := hide (by rw [← hT])
    rw [hT]
    clear htl
    have hsz := hbr.size
    by_cases hlt : j < R.length
    · have hjl : (j : Int) < raw.length := by omega
      have hj8 : (j : Int) < 8 := by omega
      rcases (unhide HR) with ⟨h0, _⟩ | ⟨g2, off2, cap2, hv2, hc2, hm2, hgl2, hx2⟩
      · subst h0; simp at hjl; omega
      simp only [Value.slice.injEq] at hv2
      obtain ⟨rfl, _, rfl⟩ := hv2
      obtain ⟨k0, k1, k2, k3, k4⟩ := hx2 j _ (unhide HRR j hlt)
      have hbw := below_after (unhide HB2) hbr
      rw [← hbw.cell (p := ⟨g2, off2 + j * 5, none⟩) hgl2] at k0
      rw [← hbw.cell (p := ⟨g2, off2 + j * 5 + 1, none⟩) hgl2] at k1
      rw [← hbw.cell (p := ⟨g2, off2 + j * 5 + 2, none⟩) hgl2] at k2
      rw [← hbw.cell (p := ⟨g2, off2 + j * 5 + 3, none⟩) hgl2] at k3
      rw [← hbw.cell (p := ⟨g2, off2 + j * 5 + 4, none⟩) hgl2] at k4
      have HNS := hide (nsM_succ (a := a) (b := b) hlt)
      have HTX := hide (unhide HTS hlt)
      have hro := unhide HRB R[j] (List.mem_of_getElem? (unhide HRR j hlt))
      generalize R[j] = r at *
      obtain ⟨x, y, u, v, n⟩ := r
      obtain ⟨⟨hx0, hx1⟩, ⟨hy0, hy1⟩, ⟨hu0, hu1⟩, ⟨hv0, hv1⟩, ⟨hn0, hn1⟩⟩ := hro
      simp only at k0 k1 k2 k3 k4 HNS HTX hx0 hx1 hy0 hy1 hu0 hu1 hv0 hv1 hn0 hn1
      clear HTS hx2 hc2 hm2 hbw hT
      obtain ⟨wx, hwx⟩ : ∃ wx, wx = wr.alloc (.cells #[.int .i64 x, .int .i64 y, .int .i64 u, .int .i64 v, .int .i64 n] 62) := ⟨_, rfl⟩
      have hbx : Below wr.heap.size wr wx := by rw [hwx]; exact (Below.refl _ wr).alloc (Nat.le_refl _) _
      have hNx : wx.heap[wr.heap.size]? = some (.cells #[.int .i64 x, .int .i64 y, .int .i64 u, .int .i64 v, .int .i64 n] 62) := by rw [hwx]; exact alloc_last wr _
      go_wp2_with fail
      rw [← hwx]
      refine (pick_any n 2001 _ (by omega) (by omega) hn0 hn1).mono ?_
      rintro e w9 ⟨rfl, hw9⟩
      rw [hw9]
      clear hw9 w9 hwx k0 k1 k2 k3 k4
      have hmq : pickP n 2001 < 2001 := Nat.mod_lt _ (by omega)
      obtain ⟨m, hm⟩ : ∃ m, numM n = m := ⟨_, rfl⟩
      have hmm : (pickP n 2001 : Int) - 1000 = m := hm
      have hmb : -1000 ≤ m ∧ m ≤ 1000 := by rw [← hm]; exact numM_bd n
      rw [hm] at HNS HTX
      generalize pickP n 2001 = mq at *
      have HNX := hide hNx
      have HBX := hide hbx
      obtain ⟨c0, c1, c2, c3, _⟩ := box5 hNx
      have hl1 := testM_len x y
      have hl2 := testM_len u v
      have hl3 := itoa_len (n := m) (by omega) (by omega)
      obtain ⟨D1, hD1⟩ : ∃ D : ByteArray, (⟨(testOut (testM x y)).toArray⟩ : ByteArray) = D := ⟨_, rfl⟩
      obtain ⟨D2, hD2⟩ : ∃ D : ByteArray, (⟨(testOut (testM u v)).toArray⟩ : ByteArray) = D := ⟨_, rfl⟩
      obtain ⟨D3, hD3⟩ : ∃ D : ByteArray, (⟨(Lib.itoa m).toArray⟩ : ByteArray) = D := ⟨_, rfl⟩
      have hs1 : D1.size ≤ 20 := by rw [← hD1]; show (testOut (testM x y)).toArray.size ≤ _; rw [List.size_toArray]; exact hl1
      have hs2 : D2.size ≤ 20 := by rw [← hD2]; show (testOut (testM u v)).toArray.size ≤ _; rw [List.size_toArray]; exact hl2
      have hs3 : D3.size ≤ 20 := by rw [← hD3]; show (Lib.itoa m).toArray.size ≤ _; rw [List.size_toArray]; omega
      have HD1 : Hid (D1.data.toList = testOut (testM x y)) := hide (by rw [← hD1])
      have HD2 : Hid (D2.data.toList = testOut (testM u v)) := hide (by rw [← hD2])
      have HD3 : Hid (D3.data.toList = Lib.itoa m) := hide (by rw [← hD3])
      have E1 := hide hD1
      have E2 := hide hD2
      have E3 := hide hD3
      clear hNx hbx hl1 hl2 hl3 hD1 hD2 hD3 hm hbr
      have HTXT : Hid (⟨(txtM pol R (j + 1)).toArray⟩ = T ++ D1 ++ (⟨#[44]⟩ : ByteArray) ++ D2 ++ (⟨#[61]⟩ : ByteArray) ++ D3 ++ (⟨#[59]⟩ : ByteArray)) := hide (by
        apply ByteArray.ext
        apply Array.toList_inj.1
        simp [unhide HTX, unhide HTT, unhide HD1, unhide HD2, unhide HD3])
      clear HTX HTT HD1 HD2 HD3
      go_wp2_with fail
      have q0 : ¬ 9223372036854775807 < T.size + D1.size := by omega
      have q1 : ¬ 9223372036854775807 < T.size + D1.size + 1 := by omega
      have q1b : ¬ 9223372036854775807 ≤ T.size + D1.size := by omega
      have q1c : ¬ 9223372036854775806 < T.size + D1.size := by omega
      have q2 : ¬ 9223372036854775807 < T.size + D1.size + 1 + D2.size := by omega
      have q3 : ¬ 9223372036854775807 < T.size + D1.size + 1 + D2.size + 1 := by omega
      have q3b : ¬ 9223372036854775807 ≤ T.size + D1.size + 1 + D2.size := by omega
      have q3c : ¬ 9223372036854775806 < T.size + D1.size + 1 + D2.size := by omega
      have q4 : ¬ 9223372036854775807 < T.size + D1.size + 1 + D2.size + 1 + D3.size := by omega
      have q5 : ¬ 9223372036854775807 < T.size + D1.size + 1 + D2.size + 1 + D3.size + 1 := by omega
      have q5b : ¬ 9223372036854775807 ≤ T.size + D1.size + 1 + D2.size + 1 + D3.size := by omega
      have q5c : ¬ 9223372036854775806 < T.size + D1.size + 1 + D2.size + 1 + D3.size := by omega
      go_region_held3 (fun w' => w'.cell? ⟨wr.heap.size, 0, none⟩ = some (.int .i64 x) ∧ w'.cell? ⟨wr.heap.size, 1, none⟩ = some (.int .i64 y) ∧ w'.cell? ⟨wr.heap.size, 2, none⟩ = some (.int .i64 u) ∧ w'.cell? ⟨wr.heap.size, 3, none⟩ = some (.int .i64 v)) (go_keep) (first | (go_at_call_of 25 x; refine (ktest_any x y _ hx0 hx1 hy0 hy1).mono ?_; rintro e w5 ⟨rfl, hb5⟩; rw [unhide E1]; have HB5 := hide (below_after (unhide HBX) (below_of_drew hb5)); have HN5 := hide (((below_of_drew hb5).block _ (lt_of_block (unhide HNX))).trans (unhide HNX)); obtain ⟨d0, d1, d2, d3, _⟩ := box5 (unhide HN5); clear hb5) | (go_at_call_of 25 u; refine (ktest_any u v _ hu0 hu1 hv0 hv1).mono ?_; rintro e w6 ⟨rfl, hb6⟩; rw [unhide E2]; have HB6 := hide (below_after (unhide HB5) hb6); have HN6 := hide ((hb6.block _ (lt_of_block (unhide HN5))).trans (unhide HN5)); obtain ⟨e0, e1, e2, e3, _⟩ := box5 (unhide HN6); clear hb6) | (go_at_call 26; refine (kdigits_any m _ (by omega) (by omega)).mono ?_; rintro e w7 ⟨rfl, hb7⟩; rw [unhide E3]; have HB7 := hide (below_after (unhide HB6) hb7); have HN7 := hide ((hb7.block _ (lt_of_block (unhide HN6))).trans (unhide HN6)); obtain ⟨f0, f1, f2, f3, _⟩ := box5 (unhide HN7); clear hb7))
      · clear c0 c1 c2 c3 d0 d1 d2 d3 e0 e1 e2 e3
        go_wp2_with fail
        refine (in_any a x y _ hx0 hx1 hy0 hy1).mono ?_
        rintro e w9 ⟨rfl, hw9⟩
        rw [hw9]
        clear hw9 w9
        go_wp2_with fail
        refine (in_any b u v _ hu0 hu1 hv0 hv1).mono ?_
        rintro e w9 ⟨rfl, hw9⟩
        rw [hw9]
        clear hw9 w9
        have hs7 := Nat.le_trans hsz (unhide HB7).size
        cases hq1 : meetsP (testM x y) 0 a <;> cases hq2 : meetsP (testM u v) 0 b
        case true.true =>
          rw [hq1, hq2] at HNS
          go_wp2_with (at_builtin; refine wpList_append_lies _ (by rfl) _ _ _ (by rfl) w2.heap.size 3 i0 _ 1 8 Tryz.underlying25 hi hz0 hz1 hz2 rfl (by decide) u12 (nsM R a b j).length (ints (nsM R a b j)) (by rfl) ((owns_below A.out.2.2 (unhide HB7)).alloc _) ⟨w7.heap.size, 0, none⟩ 1 1 [.int .i64 m] (by rfl) (by rfl) (World.news_of_block (cs := #[.int .i64 m]) (t := 3) (fr := (0, 0)) (heap_alloc_new w7 _)) (by simp [Value.oneCell']) (by decide) (by unfold maxLen; omega) (by omega) (by simp; omega) (w7.heap.size + 1) (by simp) ?_; intro gg cap w8 hown7 hgrow7 hat7 hlt7; have AB := hide (And.intro (below_grown ((below_after A.out.2.1 (unhide HB7)).alloc hs7 _) hgrow7 (fun q hq => (A.out.2.2.lt q hq).1)) hown7); clear hown7 hgrow7 hat7 hlt7)
          go_roundg (R.length - (j + 1))
          case measure => have := A.out.1; omega
          case rel =>
            refine ⟨j + 1, by omega, rfl, by go_num, by rw [unhide HTXT], (unhide AB).1, ?_⟩
            have hab := (unhide AB).2
            rw [unhide HNS]
            simpa [ints] using hab
        all_goals
          rw [hq1, hq2] at HNS
          go_wp2_with fail
          go_roundg (R.length - (j + 1))
          case measure => have := A.out.1; omega
          case rel =>
            refine ⟨j + 1, by omega, rfl, by go_num, by rw [unhide HTXT], below_after A.out.2.1 (unhide HB7), ?_⟩
            rw [unhide HNS]
            simpa using owns_below A.out.2.2 (unhide HB7)
    · have hje : j = R.length := by omega
      have HNB := hide (nsM_bd (R := R) (a := a) (b := b))
      have hown := A.out.2.2
      have HB3 := hide (below_after (unhide HB2) A.out.2.1)
      have HPO : Hid (planOf (T ++ (⟨#[125]⟩ : ByteArray)) = .inr (planM pol R)) := hide (by
        rw [← planOf_M hip hR8]
        congr 1
        apply ByteArray.ext
        apply Array.toList_inj.1
        simp [unhide HTT, hje, txtM])
      have HTM := hide (tabsM pol R a b)
      have HFT := hide (fitsM pol R ha hb)
      rw [hje] at hown hml
      generalize nsM R a b R.length = ns at *
      have HO := hide hown
      clear hown hT HTT HTS A hbr
      have hsz : (T ++ (⟨#[125]⟩ : ByteArray)).size ≤ maxLen := by
        rw [ByteArray.size_append]
        show T.size + 1 ≤ 9223372036854775807
        omega
      have HSZ := hide hsz
      clear hsz
      have hway : ((j : Int) < raw.length ∧ ¬ (j : Int) < 8) ∨ ¬ (j : Int) < raw.length := by omega
      have HBB := hide hb
      have HAA := hide ha
      rcases hway with ⟨hjr, hj8⟩ | hjr
      all_goals
        go_wp2_with fail
        refine (new_any _ _ (unhide HSZ)).mono ?_
        rintro e w3 (⟨n9, c9, hp9, _⟩ | ⟨its, g, hp9, rfl, hb3, _, hpl⟩)
        · rw [unhide HPO] at hp9
          cases hp9
        rw [unhide HPO] at hp9
        obtain rfl := Sum.inr.inj hp9
        have HB4 := hide (below_after (unhide HB3) hb3)
        have HO3 := hide (owns_below (unhide HO) hb3)
        obtain ⟨w4, hw4⟩ : ∃ w4, w4 = w3.alloc (.cells #[.int .i64 a, .int .i64 b] 3) := ⟨_, rfl⟩
        have hb4 : Below w3.heap.size w3 w4 := by rw [hw4]; exact (Below.refl _ w3).alloc (Nat.le_refl _) _
        have hN4 : w4.heap[w3.heap.size]? = some (.cells #[.int .i64 a, .int .i64 b] 3) := by rw [hw4]; exact alloc_last w3 _
        have HSL : Hid (SlAt w4 1 (.slice (some ⟨w3.heap.size, 0, none⟩) 2 2) ([a, b] : List Int).length (ints [a, b])) := hide (Or.inr ⟨w3.heap.size, 2, rfl, Nat.le_refl _, by unfold maxLen; omega, lt_of_block hN4, fun k hk => by
          have hk2 : k = 0 ∨ k = 1 := by simp at hk; omega
          rcases hk2 with rfl | rfl
          · exact (box2 hN4).1.1
          · exact (box2 hN4).1.2⟩)
        have HPL4 := hide (hpl.below hb4)
        have HB5 := hide (below_after (unhide HB4) hb4)
        have HO4 := hide (owns_below (unhide HO3) hb4)
        clear hp9 hb3 hpl hb4 hN4
        go_wp2_with fail
        rw [← hw4]
        clear hw4
        refine (eval_any g _ _ [a, b] _ (unhide HPL4) (unhide HSL)).mono ?_
        rintro e w5 (⟨hf, _⟩ | ⟨_, lo, lc, rfl, hb5, hlo⟩)
        · rw [unhide HFT] at hf
          cases hf
        rw [unhide HTM] at hlo ⊢
        obtain ⟨V, hV⟩ : ∃ V, decideP pol ns = V := ⟨_, rfl⟩
        rw [hV] at hlo ⊢
        rcases SlAt.of_owns hlo with ⟨h0, _⟩ | ⟨gl, lcap, hlv, _, _, hgl, hlx⟩
        · simp at h0
        simp only [Value.slice.injEq] at hlv
        obtain ⟨rfl, _, rfl⟩ := hlv
        have v0 : w5.cell? ⟨gl, 0, none⟩ = some (.int .i64 V.kind) := by rw [hlx 0 (by simp)]; rfl
        have v1 : w5.cell? ⟨gl, 1, none⟩ = some (.int .i64 V.n) := by rw [hlx 1 (by simp)]; rfl
        have HC : Hid (∀ w', Below w5.heap.size w5 w' → w'.cell? ⟨gl, 0, none⟩ = some (.int .i64 V.kind) ∧ w'.cell? ⟨gl, 1, none⟩ = some (.int .i64 V.n)) := hide (fun w' hb' => ⟨by rw [hb'.cell (p := ⟨gl, 0, none⟩) hgl]; exact v0, by rw [hb'.cell (p := ⟨gl, 1, none⟩) hgl]; exact v1⟩)
        have HB6 := hide (below_after (unhide HB5) hb5)
        have HO5 := hide (SlAt.of_owns (owns_below (unhide HO4) hb5))
        have HV := hide hV
        clear hb5 hlo hlx v0 v1 hgl hV
        obtain ⟨mo, mc, hmv⟩ := (unhide HO5).form
        subst hmv
        go_wp2_with fail
        go_loopg [21, 22, 23] ns.length (fun g sv mv iv wr => ∃ k : Nat, k ≤ ns.length ∧ g = ns.length - k ∧ iv = .int .i64 (k : Int) ∧ sv = .int .i64 ((ns.take k).foldl (· + ·) 0) ∧ mv = .int .i64 (mostM (ns.take k)) ∧ Below w5.heap.size w5 wr)
        case atStart => exact ⟨0, by omega, rfl, rfl, rfl, rfl, Below.refl _ _⟩
        case round =>
          obtain ⟨k, hk, hg, rfl, rfl, rfl, hbk⟩ := hrel
          have C : Aside (gk = ns.length - k ∧ Below w5.heap.size w5 wr) := ⟨hg, hbk⟩
          clear hg
          by_cases hlt2 : k < ns.length
          · rcases (unhide HO5).below hbk with ⟨h0, _⟩ | ⟨gm, mcap, hmv, _, _, hmgl, hmx⟩
            · omega
            simp only [Value.slice.injEq] at hmv
            obtain ⟨rfl, _, rfl⟩ := hmv
            have m0 : wr.cell? ⟨gm, k, none⟩ = some (.int .i64 ns[k]) := by rw [hmx k (by omega)]; simp [ints, hlt2]
            have HS1 := hide (foldl_take_succ ns k hlt2)
            have HS2 := hide (most_take ns k hlt2)
            have hbd := foldl_bd (ns.take k) 0 (fun x hx => by have := unhide HNB x (List.mem_of_mem_take hx); omega)
            have hln : (ns.take k).length ≤ 8 := by rw [List.length_take]; omega
            have hmb := most_bd (ns.take k) (-1001) (fun x hx => unhide HNB x (List.mem_of_mem_take hx)) (by omega) (by omega)
            have hxb := unhide HNB ns[k] (List.getElem_mem hlt2)
            have hkc : (k : Int) < ns.length := by omega
            have hmo : mostM (ns.take k) = (ns.take k).foldl max (-1001) := rfl
            rw [← hmo] at hmb
            generalize ns[k] = x at *
            generalize (ns.take k).foldl (· + ·) 0 = s at *
            generalize mostM (ns.take k) = mo2 at *
            clear hmx hbk hmo
            by_cases hgt : mo2 < x
            · go_wp2_with fail
              go_roundg (ns.length - (k + 1))
              case measure => have := C.out.1; omega
              case rel => exact ⟨k + 1, by omega, rfl, by go_num, by rw [unhide HS1], by rw [unhide HS2, Int.max_eq_right (by omega)], C.out.2⟩
            · go_wp2_with fail
              go_roundg (ns.length - (k + 1))
              case measure => have := C.out.1; omega
              case rel => exact ⟨k + 1, by omega, rfl, by go_num, by rw [unhide HS1], by rw [unhide HS2, Int.max_eq_left (by omega)], C.out.2⟩
          · have hke : k = ns.length := by omega
            have hkc : ¬ (k : Int) < ns.length := by omega
            have HB7 := hide (below_after (unhide HB6) hbk)
            obtain ⟨v0, v1⟩ := unhide HC _ hbk
            have HM0 := hide ((unhide HO5).below hbk)
            have hgl := World.block_lt_of_cell? _ _ v0
            subst hke
            rw [List.take_length]
            have HDV : Hid (decideP pol ns = V) := HV
            have HBE : Hid (∀ o, Below w.heap.size w (wr.alloc o)) := hide (fun o => (unhide HB7).alloc (unhide HB7).size o)
            have HNB2 := hide (unhide HNB)
            clear hbk C HV HO5 HC hlt2
            unfold isPol at hip
            simp only [decide_eq_true_eq] at hip
            obtain ⟨vk, vn⟩ := V
            simp only at v0 v1
            by_cases hS : pol = 83
            · subst hS
              have hv := unhide HDV
              simp only [decideP, if_true, PVal.mk.injEq] at hv
              obtain ⟨rfl, rfl⟩ := hv
              go_wp2_with fail
              go_ret
              exact ⟨rfl, by first | exact unhide HB7 | exact unhide HBE _ | exact (unhide HB7).drew | exact below_drewN (unhide HB7) _⟩
            by_cases hN : pol = 78
            · subst hN
              have hv := unhide HDV
              simp only [decideP, if_true] at hv
              rw [if_neg (by decide)] at hv
              simp only [PVal.mk.injEq] at hv
              obtain ⟨rfl, rfl⟩ := hv
              go_wp2_with fail
              go_ret
              exact ⟨rfl, by first | exact unhide HB7 | exact unhide HBE _ | exact (unhide HB7).drew | exact below_drewN (unhide HB7) _⟩
            have bS : (pol == 83) = false := by simpa using hS
            have bN : (pol == 78) = false := by simpa using hN
            cases ns with
            | nil =>
              have hv := unhide HDV
              simp only [decideP, hS, hN, if_false, PVal.mk.injEq] at hv
              obtain ⟨rfl, rfl⟩ := hv
              clear hS hN
              go_wp2_with fail
              go_ret
              exact ⟨rfl, by first | exact unhide HB7 | exact unhide HBE _ | exact (unhide HB7).drew | exact below_drewN (unhide HB7) _⟩
            | cons n l =>
              have hv := unhide HDV
              simp only [decideP, hS, hN, if_false] at hv
              rcases unhide HM0 with ⟨h0, _⟩ | ⟨gm, mcap, hmv, _, _, hmgl, hmx⟩
              · simp at h0
              simp only [Value.slice.injEq] at hmv
              obtain ⟨rfl, _, rfl⟩ := hmv
              have m0 : wr.cell? ⟨gm, 0, none⟩ = some (.int .i64 n) := by rw [hmx 0 (by simp)]; rfl
              have hMO : mostM (n :: l) = l.foldl max n := most_foldl l _ _ (by have := unhide HNB2 n (by simp); omega)
              rw [hMO]
              have hLe : (n :: l).length = l.length + 1 := rfl
              obtain ⟨L, hL⟩ : ∃ L, L = (n :: l).length := ⟨_, rfl⟩
              rw [← hL] at hkc ⊢
              have hL0 : ((L : Int) == 0) = false := by rw [hL, hLe]; simp; omega
              have hL1 : (0 : Int) < L := by rw [hL, hLe]; omega
              have hL8 : (L : Int) ≤ 100 := by rw [hL]; omega
              clear hmx hMO
              by_cases hU : pol = 85
              · subst hU
                by_cases hl : l = []
                · rw [if_neg (by decide), if_neg (by simp [hl])] at hv
                  simp only [PVal.mk.injEq] at hv
                  obtain ⟨rfl, rfl⟩ := hv
                  have hL2 : ¬ (1 : Int) < L := by rw [hL, hLe, hl]; simp
                  clear hS hN hL hLe
                  go_wp2_with fail
                  go_quiet (fail)
                  go_wp2_with fail
                  go_ret
                  exact ⟨rfl, by first | exact unhide HB7 | exact unhide HBE _ | exact (unhide HB7).drew | exact below_drewN (unhide HB7) _⟩
                · rw [if_neg (by decide), if_pos ⟨rfl, hl⟩] at hv
                  simp only [PVal.mk.injEq] at hv
                  obtain ⟨rfl, rfl⟩ := hv
                  have hl9 : 0 < l.length := List.length_pos_iff.2 hl
                  have hL2 : (1 : Int) < L := by rw [hL, hLe]; omega
                  clear hS hN hL hLe
                  go_wp2_with fail
                  go_ret
                  exact ⟨rfl, by first | exact unhide HB7 | exact unhide HBE _ | exact (unhide HB7).drew | exact below_drewN (unhide HB7) _⟩
              have bU : (pol == 85) = false := by simpa using hU
              by_cases hP : pol = 80
              · subst hP
                rw [if_pos rfl] at hv
                simp only [PVal.mk.injEq] at hv
                obtain ⟨rfl, rfl⟩ := hv
                clear hS hN hL hLe
                go_wp2_with fail
                go_ret
                exact ⟨rfl, by first | exact unhide HB7 | exact unhide HBE _ | exact (unhide HB7).drew | exact below_drewN (unhide HB7) _⟩
              · have bP : (pol == 80) = false := by simpa using hP
                rw [if_neg hP, if_neg (by simp [hU])] at hv
                simp only [PVal.mk.injEq] at hv
                obtain ⟨rfl, rfl⟩ := hv
                clear hS hN hL hLe hU hP
                go_wp2_with fail
                go_quiet (fail)
                go_wp2_with fail
                go_ret
                exact ⟨rfl, by first | exact unhide HB7 | exact unhide HBE _ | exact (unhide HB7).drew | exact below_drewN (unhide HB7) _⟩
end Go.Proofs.YthnggjaecngbiaaGreatDoor
