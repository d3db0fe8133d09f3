import Derived.Test.YtdgbmcbkbkbdoaaGreatDoorLgC
import Derived.Test.YtdgbmcbkbkbdoaaGreatDoorSlX
namespace Go.Proofs.YtdgbmcbkbkbdoaaGreatDoor
open Go.RowKit
theorem LawAt.read {w : World} {g : Nat} {h : Hist} {X : Nat → Prop} (k : LawAt w g h X) :
  ∃ v0 v1 v2 v3 v4 v5, (w.cell? ⟨g, 0, none⟩ = some v0 ∧ w.cell? ⟨g, 1, none⟩ = some v1 ∧ w.cell? ⟨g, 2, none⟩ = some v2 ∧ w.cell? ⟨g, 3, none⟩ = some v3 ∧ w.cell? ⟨g, 4, none⟩ = some v4 ∧ w.cell? ⟨g, 5, none⟩ = some v5) ∧
   SlAt w 2 v0 h.ps.length (rowX h 0) ∧ SlAt w 1 v1 h.ns.length (rowX h 1) ∧ SlAt w 1 v2 h.vs.length (rowX h 2) ∧ SlAt w 1 v3 h.ls.length (rowX h 3) ∧ SlAt w 1 v4 h.ns.length (rowX h 4) ∧ SlAt w 1 v5 h.vs.length (rowX h 5) := by
 obtain ⟨F, r, h1, h2, _, _⟩ := k
 obtain ⟨hc, _⟩ := h1.cells
 have key : ∀ i, i < 6 → w.ownsRow g (wty i) (wsz i) (r i).v (r i).n (rowX h i) := fun i hi => by rw [← h2 i hi]; exact h1.own i hi
 have k0 := key 0 (by omega)
 have k1 := key 1 (by omega)
 have k2 := key 2 (by omega)
 have k3 := key 3 (by omega)
 have k4 := key 4 (by omega)
 have k5 := key 5 (by omega)
 have n0 : (r 0).n = h.ps.length := by
  have := k0.1
  simp only [rowX, wsz] at this
  rw [flat_len _ 2 (fun _ => rfl)] at this
  omega
 have n1 : (r 1).n = h.ns.length := by have := k1.1; simp only [rowX, wsz, List.length_map] at this; omega
 have n2 : (r 2).n = h.vs.length := by have := k2.1; simp only [rowX, wsz, List.length_map] at this; omega
 have n3 : (r 3).n = h.ls.length := by have := k3.1; simp only [rowX, wsz, List.length_map] at this; omega
 have n4 : (r 4).n = h.ns.length := by have := k4.1; simp only [rowX, wsz, List.length_map] at this; omega
 have n5 : (r 5).n = h.vs.length := by have := k5.1; simp only [rowX, wsz, List.length_map] at this; omega
 rw [n0] at k0
 rw [n1] at k1
 rw [n2] at k2
 rw [n3] at k3
 rw [n4] at k4
 rw [n5] at k5
 exact ⟨_, _, _, _, _, _, hc, SlAt.of_owns k0, SlAt.of_owns k1, SlAt.of_owns k2, SlAt.of_owns k3, SlAt.of_owns k4, SlAt.of_owns k5⟩
theorem repL_at {c : List Value} {k j i : Nat} (hj : j < k) (hi : i < c.length) : (repL c k)[j * c.length + i]? = c[i]? := by
 have h1 : repL c k = repL c j ++ (c ++ repL c (k - j - 1)) := by
  obtain ⟨d, rfl⟩ : ∃ d, k = j + (1 + d) := ⟨k - j - 1, by omega⟩
  rw [repL_add, repL_add, show j + (1 + d) - j - 1 = d by omega]
  congr 1
  congr 1
  simp [repL]
 rw [h1, List.getElem?_append_right (by rw [repL_len]; omega), repL_len, show j * c.length + i - j * c.length = i by omega, List.getElem?_append_left hi]
set_option maxRecDepth 100000 in
set_option maxHeartbeats 3200000 in
theorem looksAt_any (g : Nat) (h : Hist) (X : Nat → Prop) (w : World) (k : LawAt w g h X) : Calls Tryz.prog 28 #[.pointer (some ⟨g, 0, none⟩)] w fun e w' => e = .returned (.bool true) ∧ Below w.heap.size w w' := by
 obtain ⟨v0, v1, v2, v3, v4, v5, ⟨c0, c1, c2, c3, c4, c5⟩, s0, s1, s2, s3, s4, s5⟩ := k.read
 have hgs := k.gt
 have hst := k.still
 obtain ⟨o1, p1, rfl⟩ := s1.form
 obtain ⟨o2, p2, rfl⟩ := s2.form
 obtain ⟨o3, p3, rfl⟩ := s3.form
 obtain ⟨o4, p4, rfl⟩ := s4.form
 obtain ⟨o5, p5, rfl⟩ := s5.form
 have m1 : h.ns.length ≤ 9223372036854775807 := s1.len_le
 have m2 : h.vs.length ≤ 9223372036854775807 := s2.len_le
 have m3 : h.ls.length ≤ 9223372036854775807 := s3.len_le
 have HST := hide hst
 have S1 := hide s1
 have S2 := hide s2
 have S3 := hide s3
 have S4 := hide s4
 have S5 := hide s5
 clear k hst s0 s1 s2 s3 s4 s5
 go_enter Tryz.func28, Tryz.ntmps28
 go_wp2_with fail
 go_loopg [3] h.ns.length (fun gk i wr => ∃ j : Nat, j ≤ h.ns.length ∧ gk = h.ns.length - j ∧ i = .int .i64 (j : Int) ∧ Below w.heap.size w wr)
 case atStart => exact ⟨0, by omega, rfl, rfl, Below.refl _ _⟩
 case round =>
  obtain ⟨j, hj, hg, rfl, hb⟩ := hrel
  have A : Aside (gk = h.ns.length - j ∧ Below w.heap.size w wr) := ⟨hg, hb⟩
  have c1' := (hb.cell (p := ⟨g, 1, none⟩) hgs).trans c1
  have c2' := (hb.cell (p := ⟨g, 2, none⟩) hgs).trans c2
  have c3' := (hb.cell (p := ⟨g, 3, none⟩) hgs).trans c3
  have c4' := (hb.cell (p := ⟨g, 4, none⟩) hgs).trans c4
  have c5' := (hb.cell (p := ⟨g, 5, none⟩) hgs).trans c5
  have hgs' : g < wr.heap.size := Nat.lt_of_lt_of_le hgs hb.size
  clear hg
  by_cases hlt : j < h.ns.length
  ·obtain ⟨g1, rfl, d1, hg1⟩ := ((uh S1).below hb).at1 hlt
   obtain ⟨g4, rfl, d4, hg4⟩ := ((uh S4).below hb).at1 hlt
   have hown := (uh HST).ns h.ns[j] (List.getElem_mem hlt)
   have HD1 : Hid ((rowX h 1)[j]? = some h.ns[j].1) := hide (by simp [rowX, hlt])
   have HD4 : Hid ((rowX h 4)[j]? = some (.int .i64 h.ns[j].2.2)) := hide (by simp [rowX, hlt])
   rw [uh HD1] at d1
   rw [uh HD4] at d4
   have hsl := SlAt.of_owns hown
   obtain ⟨oo, oc, hform⟩ := hsl.form
   have HO := hide hown
   have HSL := hide hsl
   have hjc : (j : Int) < h.ns.length := by omega
   have mm : h.ns[j].2.1 ≤ 9223372036854775807 := hsl.len_le
   rw [hform] at HSL d1 HD1
   generalize h.ns[j] = y at *
   obtain ⟨yv, yn, ym⟩ := y
   simp only at d1 d4 HSL mm HD1 HD4
   clear hown hsl hform HO
   go_wp2_with fail
   go_loopg [4] yn (fun gk i wx => ∃ m : Nat, m ≤ yn ∧ gk = yn - m ∧ i = .int .i64 (m : Int) ∧ Below w.heap.size w wx)
   case atStart => exact ⟨0, by omega, rfl, rfl, A.out.2⟩
   case round =>
    obtain ⟨m, hm, hg, rfl, hb2⟩ := hrel
    have B : Aside (gk = yn - m ∧ Below w.heap.size w wr) := ⟨hg, hb2⟩
    have hgs2 : g < wr.heap.size := Nat.lt_of_lt_of_le hgs hb2.size
    have x1 := (hb2.cell (p := ⟨g, 1, none⟩) hgs).trans c1
    obtain ⟨gg1, hgg1, e1, hl1⟩ := ((uh S1).below hb2).at1 hlt
    simp only [Option.some.injEq, Addr.mk.injEq, and_true] at hgg1
    subst hgg1
    have x4 := (hb2.cell (p := ⟨g, 4, none⟩) hgs).trans c4
    obtain ⟨gg4, hgg4, e4, hl4⟩ := ((uh S4).below hb2).at1 hlt
    simp only [Option.some.injEq, Addr.mk.injEq, and_true] at hgg4
    subst hgg4
    rw [uh HD1] at e1
    rw [uh HD4] at e4
    clear hg
    by_cases hmt : m < yn
    ·obtain ⟨g6, rfl, d6, hg6⟩ := ((uh HSL).below hb2).at1 hmt
     rw [show (repL (mI ym) yn)[m]? = some (.int .i64 ym) by have := repL_at (c := mI ym) (i := 0) hmt (by simp [mI]); simpa [mI] using this] at d6
     have hmc : (m : Int) < yn := by omega
     clear hb hb2
     go_wp2_with fail
     go_region
     all_goals
      go_wp2
      go_roundg (yn - (m + 1))
      case measure => have := B.out.1; omega
      case rel => exact ⟨m + 1, by omega, rfl, by go_num, B.out.2.drew⟩
    ·have hmc : ¬ (m : Int) < yn := by omega
     go_wp2_with fail
     go_roundg (h.ns.length - (j + 1))
     case measure => have := A.out.1; omega
     case rel => exact ⟨j + 1, by omega, rfl, by go_num, B.out.2⟩
  ·have hjc : ¬ (j : Int) < h.ns.length := by omega
   go_wp2_with fail
   go_loopg [5] h.vs.length (fun gk i wx => ∃ j : Nat, j ≤ h.vs.length ∧ gk = h.vs.length - j ∧ i = .int .i64 (j : Int) ∧ Below w.heap.size w wx)
   case atStart => exact ⟨0, by omega, rfl, rfl, A.out.2⟩
   case round =>
    obtain ⟨j, hj, hg, rfl, hb⟩ := hrel
    have A : Aside (gk = h.vs.length - j ∧ Below w.heap.size w wr) := ⟨hg, hb⟩
    have c1' := (hb.cell (p := ⟨g, 1, none⟩) hgs).trans c1
    have c2' := (hb.cell (p := ⟨g, 2, none⟩) hgs).trans c2
    have c3' := (hb.cell (p := ⟨g, 3, none⟩) hgs).trans c3
    have c4' := (hb.cell (p := ⟨g, 4, none⟩) hgs).trans c4
    have c5' := (hb.cell (p := ⟨g, 5, none⟩) hgs).trans c5
    have hgs' : g < wr.heap.size := Nat.lt_of_lt_of_le hgs hb.size
    clear hg
    by_cases hlt : j < h.vs.length
    ·obtain ⟨g2, rfl, d2, hg2⟩ := ((uh S2).below hb).at1 hlt
     obtain ⟨g5, rfl, d5, hg5⟩ := ((uh S5).below hb).at1 hlt
     have hown := (uh HST).vs h.vs[j] (List.getElem_mem hlt)
     have HD2 : Hid ((rowX h 2)[j]? = some h.vs[j].1) := hide (by simp [rowX, hlt])
     have HD5 : Hid ((rowX h 5)[j]? = some (.int .i64 h.vs[j].2.2)) := hide (by simp [rowX, hlt])
     rw [uh HD2] at d2
     rw [uh HD5] at d5
     have hsl := SlAt.of_owns hown
     obtain ⟨oo, oc, hform⟩ := hsl.form
     have HSL := hide hsl
     have hjc : (j : Int) < h.vs.length := by omega
     have mm : h.vs[j].2.1 ≤ 9223372036854775807 := hsl.len_le
     rw [hform] at HSL d2 HD2
     generalize h.vs[j] = y at *
     obtain ⟨yv, yn, ym⟩ := y
     simp only at d2 d5 HSL mm HD2 HD5
     clear hown hsl hform
     go_wp2_with fail
     go_loopg [7] yn (fun gk i wx => ∃ m : Nat, m ≤ yn ∧ gk = yn - m ∧ i = .int .i64 (m : Int) ∧ Below w.heap.size w wx)
     case atStart => exact ⟨0, by omega, rfl, rfl, A.out.2⟩
     case round =>
      obtain ⟨m, hm, hg, rfl, hb2⟩ := hrel
      have B : Aside (gk = yn - m ∧ Below w.heap.size w wr) := ⟨hg, hb2⟩
      have hgs2 : g < wr.heap.size := Nat.lt_of_lt_of_le hgs hb2.size
      have x2 := (hb2.cell (p := ⟨g, 2, none⟩) hgs).trans c2
      obtain ⟨gg2, hgg2, e2, hl2⟩ := ((uh S2).below hb2).at1 hlt
      simp only [Option.some.injEq, Addr.mk.injEq, and_true] at hgg2
      subst hgg2
      have x5 := (hb2.cell (p := ⟨g, 5, none⟩) hgs).trans c5
      obtain ⟨gg5, hgg5, e5, hl5⟩ := ((uh S5).below hb2).at1 hlt
      simp only [Option.some.injEq, Addr.mk.injEq, and_true] at hgg5
      subst hgg5
      rw [uh HD2] at e2
      rw [uh HD5] at e5
      clear hg
      by_cases hmt : m < yn
      ·obtain ⟨g6, rfl, d6, d7, hg6⟩ := ((uh HSL).below hb2).at2 hmt
       rw [show (repL (mV ym) yn)[m * 2]? = some (.int .i64 ym) by have := repL_at (c := mV ym) (i := 0) hmt (by simp [mV]); simpa [mV] using this] at d6
       rw [show (repL (mV ym) yn)[m * 2 + 1]? = some (.int .i64 ym) by have := repL_at (c := mV ym) (i := 1) hmt (by simp [mV]); simpa [mV] using this] at d7
       have hmc : (m : Int) < yn := by omega
       clear hb hb2
       go_wp2_with fail
       go_roundg (yn - (m + 1))
       case measure => have := B.out.1; omega
       case rel => exact ⟨m + 1, by omega, rfl, by go_num, B.out.2⟩
      ·have hmc : ¬ (m : Int) < yn := by omega
       go_wp2_with fail
       go_roundg (h.vs.length - (j + 1))
       case measure => have := A.out.1; omega
       case rel => exact ⟨j + 1, by omega, rfl, by go_num, B.out.2⟩
    ·have hjc : ¬ (j : Int) < h.vs.length := by omega
     go_wp2_with fail
     go_loopg [8] h.ls.length (fun gk i wx => ∃ j : Nat, j ≤ h.ls.length ∧ gk = h.ls.length - j ∧ i = .int .i64 (j : Int) ∧ Below w.heap.size w wx)
     case atStart => exact ⟨0, by omega, rfl, rfl, A.out.2⟩
     case round =>
      obtain ⟨j, hj, hg, rfl, hb⟩ := hrel
      have A : Aside (gk = h.ls.length - j ∧ Below w.heap.size w wr) := ⟨hg, hb⟩
      have c1' := (hb.cell (p := ⟨g, 1, none⟩) hgs).trans c1
      have c2' := (hb.cell (p := ⟨g, 2, none⟩) hgs).trans c2
      have c3' := (hb.cell (p := ⟨g, 3, none⟩) hgs).trans c3
      have c4' := (hb.cell (p := ⟨g, 4, none⟩) hgs).trans c4
      have c5' := (hb.cell (p := ⟨g, 5, none⟩) hgs).trans c5
      have hgs' : g < wr.heap.size := Nat.lt_of_lt_of_le hgs hb.size
      clear hg
      by_cases hlt : j < h.ls.length
      ·obtain ⟨g3, rfl, d3, hg3⟩ := ((uh S3).below hb).at1 hlt
       have hown := (uh HST).ls h.ls[j] (List.getElem_mem hlt)
       have HD3 : Hid ((rowX h 3)[j]? = some h.ls[j].1) := hide (by simp [rowX, hlt])
       rw [uh HD3] at d3
       have hsl := SlAt.of_owns hown
       obtain ⟨oo, oc, hform⟩ := hsl.form
       have HSL := hide hsl
       have hjc : (j : Int) < h.ls.length := by omega
       have mm : h.ls[j].2 ≤ 9223372036854775807 := hsl.len_le
       rw [hform] at HSL d3 HD3
       generalize h.ls[j] = y at *
       obtain ⟨yv, yn⟩ := y
       simp only at d3 HSL mm HD3
       clear hown hsl hform
       go_wp2_with fail
       go_loopg [9] yn (fun gk i wx => ∃ m : Nat, m ≤ yn ∧ gk = yn - m ∧ i = .int .i64 (m : Int) ∧ Below w.heap.size w wx)
       case atStart => exact ⟨0, by omega, rfl, rfl, A.out.2⟩
       case round =>
        obtain ⟨m, hm, hg, rfl, hb2⟩ := hrel
        have B : Aside (gk = yn - m ∧ Below w.heap.size w wr) := ⟨hg, hb2⟩
        have hgs2 : g < wr.heap.size := Nat.lt_of_lt_of_le hgs hb2.size
        have x3 := (hb2.cell (p := ⟨g, 3, none⟩) hgs).trans c3
        obtain ⟨gg3, hgg3, e3, hl3⟩ := ((uh S3).below hb2).at1 hlt
        simp only [Option.some.injEq, Addr.mk.injEq, and_true] at hgg3
        subst hgg3
        rw [uh HD3] at e3
        clear hg
        by_cases hmt : m < yn
        ·obtain ⟨g6, rfl, d6, hg6⟩ := ((uh HSL).below hb2).at1 hmt
         rw [show (repL (mI (-99)) yn)[m]? = some (.int .i64 (-99)) by have := repL_at (c := mI (-99)) (i := 0) hmt (by simp [mI]); simpa [mI] using this] at d6
         have hmc : (m : Int) < yn := by omega
         clear hb hb2
         go_wp2_with fail
         go_roundg (yn - (m + 1))
         case measure => have := B.out.1; omega
         case rel => exact ⟨m + 1, by omega, rfl, by go_num, B.out.2⟩
        ·have hmc : ¬ (m : Int) < yn := by omega
         go_wp2_with fail
         go_roundg (h.ls.length - (j + 1))
         case measure => have := A.out.1; omega
         case rel => exact ⟨j + 1, by omega, rfl, by go_num, B.out.2⟩
      ·have hjc : ¬ (j : Int) < h.ls.length := by omega
       go_wp2_with fail
       go_ret
       exact ⟨rfl, A.out.2⟩
end Go.Proofs.YtdgbmcbkbkbdoaaGreatDoor
