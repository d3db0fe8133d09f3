import Derived.Test.YthnggjaecngbiaaGreatDoorSrC
import Derived.Shelf.Spec.SlicesGrow
namespace Go.Proofs.YthnggjaecngbiaaGreatDoor
open Go.RowKit

def Tryz.lgrow_ren : Go.Shelf.Ren := ⟨fun | 4 => 167 | n => n, fun | 22 => 25 | 25 => 3 | n => n, fun | n => n⟩
theorem Tryz.lgrow : Go.Proofs.Lays8.n4 Tryz.prog Tryz.lgrow_ren := {
  mixed := by kernel_rfl
  f4 := ⟨Tryz.f167.name, by decide, Tryz.func167.trans (congrArg some (by kernel_rfl))⟩
  t0 := Tryz.underlying0
  a0 := Tryz.isAgg0
  z0 := Tryz.sizeOf0
  v0 := Tryz.zeroValue0
  t3 := Tryz.underlying3
  a3 := Tryz.isAgg3
  z3 := Tryz.sizeOf3
  v3 := Tryz.zeroValue3
  t4 := Tryz.underlying4
  a4 := Tryz.isAgg4
  z4 := Tryz.sizeOf4
  v4 := Tryz.zeroValue4
  t9 := Tryz.underlying9
  a9 := Tryz.isAgg9
  z9 := Tryz.sizeOf9
  v9 := Tryz.zeroValue9
  t20 := Tryz.underlying20
  a20 := Tryz.isAgg20
  z20 := Tryz.sizeOf20
  v20 := Tryz.zeroValue20
  t22 := Tryz.underlying25
  a22 := Tryz.isAgg25
  z22 := Tryz.sizeOf25
  v22 := Tryz.zeroValue25 }

theorem growI_any (n : Nat) (w : World) (h0 : 0 < n) (hn : n ≤ 1000) :
    Calls Tryz.prog 167 #[.slice none 0 0, .int .i64 (n : Int)] w fun e w' => ∃ v, e = .returned v ∧ Below w.heap.size w w' ∧ w'.ownsRow w.heap.size 3 1 v 0 [] := by
  obtain ⟨i0, hi, hz0, hz1, hz2⟩ := info_parts Tryz.info_int
  have hm : n ≤ maxLen := Nat.le_trans hn (by decide)
  refine (Any8.slices_Grow_grow Tryz.lgrow i0 _ hi hz0 (by rw [hz1]; decide) none 0 0 n [] w (Nat.le_refl _) (by omega) (by rw [hz2]; omega) (by omega) (by simp) (fun _ => rfl) (fun a h => by cases h)).mono ?_
  rintro e w' ⟨rfl, rfl⟩
  have h1 := grownCap_ge w (0 + n) 0 3
  have h2 := grownCap_le_maxLen w (0 + n) 0 3 (by omega)
  refine ⟨_, rfl, (Below.refl _ w).drew.alloc (Nat.le_refl _) _, by simp, Or.inr ⟨w.heap.size, _, _, rfl, Nat.le_refl _, alloc_last w.drew _, by omega, h2, ?_, by simp⟩⟩
  show (#[] ++ Builtin.zeroCells (Value.int IntKind.i64 0).cells (0 + n - 0) ++ Builtin.zeroCells (Value.int IntKind.i64 0).cells (grownCap w (0 + n) 0 3 - (0 + n))).size = grownCap w (0 + n) 0 3 * 1
  rw [Array.size_append, Array.size_append, size_zeroCells, size_zeroCells]
  show 0 + (0 + n - 0) * 1 + (grownCap w (0 + n) 0 3 - (0 + n)) * 1 = _
  omega
def szTo (l : Nat) : Nat → Nat
  | 0 => 0
  | 1 => l
  | _ => l + 1
def catTo (a : List Int) (n : Int) : Nat → List Int
  | 0 => []
  | 1 => a
  | _ => a ++ [n]

set_option maxRecDepth 100000 in
set_option maxHeartbeats 3200000 in
theorem concat_any (g b : Nat) (ao : Option Addr) (a : List Int) (ca : Nat) (n : Int) (w : World) (h0 : w.cell? ⟨g, 0, none⟩ = some (.slice ao a.length ca)) (h1 : w.cell? ⟨g, 1, none⟩ = some (.slice (some ⟨b, 0, none⟩) 1 1)) (hg : g < w.heap.size) (ha : SlAt w 1 (.slice ao a.length ca) a.length (ints a)) (hb : w.cell? ⟨b, 0, none⟩ = some (.int .i64 n)) (hbl : b < w.heap.size) (hl : a.length ≤ 100) :
    Calls Tryz.prog 136 #[.slice (some ⟨g, 0, none⟩) 2 2] w fun e w' => ∃ v, e = .returned v ∧ Below w.heap.size w w' ∧ w'.ownsRow w.heap.size 3 1 v (a.length + 1) (ints (a ++ [n])) := by
  have HA := hide ha
  have HB := hide hb
  have H0 := hide h0
  have H1 := hide h1
  have HC : Hid (∀ w', Below w.heap.size w w' → w'.cell? ⟨g, 0, none⟩ = some (.slice ao a.length ca) ∧ w'.cell? ⟨g, 1, none⟩ = some (.slice (some ⟨b, 0, none⟩) 1 1)) := hide (fun w' hb' => ⟨(hb'.cell (p := ⟨g, 0, none⟩) hg).trans h0, (hb'.cell (p := ⟨g, 1, none⟩) hg).trans h1⟩)
  obtain ⟨i0, hi, hz0, hz1, hz2⟩ := info_parts Tryz.info_int
  clear ha hb h0 h1
  go_enter Tryz.func136, Tryz.ntmps136
  go_wp2_with fail
  go_loopg [3, 11] 2 (fun gk sz i wr => ∃ j : Nat, j ≤ 2 ∧ gk = 2 - j ∧ i = .int .i64 (j : Int) ∧ sz = .int .i64 ((szTo a.length j : Nat) : Int) ∧ Below w.heap.size w wr)
  case atStart => exact ⟨0, by omega, rfl, rfl, rfl, Below.refl _ _⟩
  case round =>
    obtain ⟨j, hj, hk, rfl, rfl, hbr⟩ := hrel
    have A : Aside (gk = 2 - j ∧ Below w.heap.size w wr) := ⟨hk, hbr⟩
    obtain ⟨c0, c1⟩ := unhide HC wr hbr
    have hgr : g < wr.heap.size := Nat.lt_of_lt_of_le hg hbr.size
    have HBR := hide hbr
    clear hk hbr
    rcases (by omega : j = 0 ∨ j = 1 ∨ j = 2) with rfl | rfl | rfl
    · simp only [szTo]
      go_wp2_with fail
      go_roundg 1
      case measure => have := A.out.1; omega
      case rel => exact ⟨1, by omega, rfl, by go_num, by simp [szTo], unhide HBR⟩
    · simp only [szTo]
      go_wp2_with fail
      go_roundg 0
      case measure => have := A.out.1; omega
      case rel => exact ⟨2, by omega, rfl, by go_num, by simp [szTo], unhide HBR⟩
    · simp only [szTo]
      clear c0 c1
      go_wp2_with fail
      refine (growI_any (a.length + 1) _ (by omega) (by omega)).mono ?_
      rintro e w2 ⟨nv, rfl, hb2, ho2⟩
      have HB2 := hide (below_after (unhide HBR) hb2)
      have HO2 := hide (owns_base ho2 (base' := w.heap.size) (unhide HBR).size)
      clear hb2 ho2 A
      go_wp2_with fail
      go_loopg [6, 27] 2 (fun gk nv i wr => ∃ j : Nat, j ≤ 2 ∧ gk = 2 - j ∧ i = .int .i64 (j : Int) ∧ Below w.heap.size w wr ∧ wr.ownsRow w.heap.size 3 1 nv (szTo a.length j) (ints (catTo a n j)))
      case atStart => exact ⟨0, by omega, rfl, rfl, unhide HB2, unhide HO2⟩
      case round =>
        obtain ⟨j, hj, hk, rfl, hbr, how⟩ := hrel
        have A : Aside (gk = 2 - j ∧ True) := ⟨hk, trivial⟩
        obtain ⟨c0, c1⟩ := unhide HC wr hbr
        have hgr : g < wr.heap.size := Nat.lt_of_lt_of_le hg hbr.size
        have HBR := hide hbr
        have HOW := hide how
        clear hk hbr how
        rcases (by omega : j = 0 ∨ j = 1 ∨ j = 2) with rfl | rfl | rfl
        · simp only [szTo, catTo] at HOW
          have HA' := hide ((unhide HA).below (unhide HBR))
          by_cases hz : a.length = 0
          · have HZ := hide hz
            have han : a = [] := List.eq_nil_of_length_eq_zero hz
            have HRW : Hid (wr.ownsRow w.heap.size 3 1 u6 (szTo a.length 1) (ints (catTo a n 1))) := hide (by rw [show szTo a.length 1 = 0 from hz, show catTo a n 1 = [] from han]; exact unhide HOW)
            clear hz han
            obtain ⟨uo, uc, hu6⟩ := (SlAt.of_owns (unhide HOW)).form
            subst hu6
            have HCAP := hide (owns_cap (unhide HOW))
            go_wp2_with (at_builtin; refine wpList_append_zero (by rfl) _ _ _ (by rfl) 3 i0 Tryz.underlying25 hi uo 0 uc (unhide HCAP) ao a.length ca (unhide HZ) (by rfl) (by rfl) ?_)
            go_roundg 1
            case measure => have := A.out.1; omega
            case rel => exact ⟨1, by omega, rfl, by go_num, unhide HBR, unhide HRW⟩
          · obtain ⟨ga, rfl, -, -⟩ := (unhide HA').at1 (show 0 < a.length by omega)
            have HNA : Hid (∀ q u, (ints a)[q]? = some u → wr.cell? ((⟨ga, 0, none⟩ : Addr).add q) = some u) := hide (fun q u hu => by
              rw [Addr.add_lit, Nat.zero_add]
              have hql : q < a.length := by have := (List.getElem?_eq_some_iff.1 hu).1; simpa [ints] using this
              obtain ⟨g', hg', k1, _⟩ := (unhide HA').at1 hql
              simp only [Option.some.injEq, Addr.mk.injEq, and_true] at hg'
              rw [← hg'] at k1
              rw [k1, hu])
            have HLA : Hid ((ints a).length = a.length * 1) := hide (by simp [ints])
            have HOA : Hid (∀ u ∈ ints a, u.oneCell' = true) := hide (fun u hu => by obtain ⟨x, _, rfl⟩ := List.mem_map.1 hu; rfl)
            have HPA : Hid (0 < a.length) := hide (by omega)
            have HM1 : Hid (0 + a.length ≤ maxLen) := hide (Nat.le_trans (show 0 + a.length ≤ 101 by omega) (by decide))
            have HM2 : Hid ((0 + a.length) * 8 ≤ 140737488355328) := hide (Nat.le_trans (Nat.mul_le_mul_right 8 (show 0 + a.length ≤ 101 by omega)) (by decide))
            clear hz
            go_wp2_with (at_builtin; refine wpList_append_lies _ (by rfl) _ _ _ (by rfl) w.heap.size 3 i0 _ 1 8 Tryz.underlying25 hi hz0 hz1 hz2 rfl (by decide) u6 0 ([] : List Value) (by rfl) (unhide HOW) ⟨ga, 0, none⟩ a.length ca (ints a) (by rfl) (unhide HLA) (unhide HNA) (unhide HOA) (unhide HPA) (unhide HM1) (unhide HM2) (unhide HBR).size wr.heap.size rfl ?_; intro gg cap w7 hown7 hgrow7 hat7 hlt7; have AB := hide (And.intro (below_grown (unhide HBR) hgrow7 (fun q hq => ((unhide HOW).lt q hq).1)) hown7); clear hown7 hgrow7 hat7 hlt7)
            go_roundg 1
            case measure => have := A.out.1; omega
            case rel => exact ⟨1, by omega, rfl, by go_num, (unhide AB).1, by have := (unhide AB).2; rw [Nat.zero_add] at this; exact this⟩
        · simp only [szTo, catTo] at HOW
          have HNB : Hid (∀ q u, [Value.int .i64 n][q]? = some u → wr.cell? ((⟨b, 0, none⟩ : Addr).add q) = some u) := hide (fun q u hu => by
            rw [Addr.add_lit, Nat.zero_add]
            cases q with
            | zero => rw [← hu]; exact ((unhide HBR).cell (p := ⟨b, 0, none⟩) hbl).trans (unhide HB)
            | succ q => simp at hu)
          have HM1 : Hid (a.length + 1 ≤ maxLen) := hide (Nat.le_trans (show a.length + 1 ≤ 101 by omega) (by decide))
          have HM2 : Hid ((a.length + 1) * 8 ≤ 140737488355328) := hide (Nat.le_trans (Nat.mul_le_mul_right 8 (show a.length + 1 ≤ 101 by omega)) (by decide))
          go_wp2_with (at_builtin; refine wpList_append_lies _ (by rfl) _ _ _ (by rfl) w.heap.size 3 i0 _ 1 8 Tryz.underlying25 hi hz0 hz1 hz2 rfl (by decide) u6 a.length (ints a) (by rfl) (unhide HOW) ⟨b, 0, none⟩ 1 1 [.int .i64 n] (by rfl) (by rfl) (unhide HNB) (by simp [Value.oneCell']) (by decide) (unhide HM1) (unhide HM2) (unhide HBR).size wr.heap.size rfl ?_; intro gg cap w7 hown7 hgrow7 hat7 hlt7; have AB := hide (And.intro (below_grown (unhide HBR) hgrow7 (fun q hq => ((unhide HOW).lt q hq).1)) hown7); clear hown7 hgrow7 hat7 hlt7)
          go_roundg 0
          case measure => have := A.out.1; omega
          case rel => exact ⟨2, by omega, rfl, by go_num, (unhide AB).1, by have := (unhide AB).2; simpa [szTo, catTo, ints] using this⟩
        · simp only [szTo, catTo] at HOW
          go_wp2_with fail
          go_ret
          exact ⟨_, rfl, unhide HBR, unhide HOW⟩

set_option maxRecDepth 100000 in
set_option maxHeartbeats 3200000 in
theorem choices_any (x : LItem) (v : List Int) (fv : Value) (w : World) (hx : ItemV w x) (hr8 : x.it.rules.length ≤ 8) (hc3 : x.it.cols.length ≤ 3) (hwd : ∀ r ∈ x.it.rules, r.tests.length = x.it.cols.length ∧ ∀ t ∈ r.tests, WfT t) (hfv : SlAt w 1 fv v.length (ints v)) (hvl : v.length < x.it.cols.length) :
    Calls Tryz.prog 135 #[iv x.it x.cv x.rv, fv] w fun e w' => ∃ cv, e = .returned cv ∧ Below w.heap.size w w' ∧ SlAt w' 1 cv (choiceP x.it.cols x.it.rules v).length (ints (choiceP x.it.cols x.it.rules v)) := by
  obtain ⟨it, cv, rv0, zv⟩ := x
  obtain ⟨co, cc, hcv⟩ := hx.1.form
  obtain ⟨ro, rc, hrv⟩ := hx.2.2.1.form
  obtain ⟨fo, fc, rfl⟩ := hfv.form
  simp only at hcv hrv
  subst hcv hrv
  simp only at hwd hr8 hc3 hvl ⊢
  have HX := hide hx
  have HF := hide hfv
  have HCAND : Hid (∀ w', Below w.heap.size w w' → Calls Tryz.prog 166 #[.agg #[.string it.name, .bool it.isT, .int .i64 (it.marks : Int), .int .u8 it.policy, .slice co it.cols.length cc, .int .i64 (it.drops : Int), .slice ro it.rules.length rc], .string (it.cols.getD v.length noName)] w' fun e w'' => ∃ v', e = .returned v' ∧ Below w'.heap.size w' w'' ∧ SlAt w'' 1 v' (candP it.cols (it.cols.getD v.length noName) it.rules).length (ints (candP it.cols (it.cols.getD v.length noName) it.rules))) := hide (fun w' hb' => by
    have := candidates_any ⟨it, .slice co it.cols.length cc, .slice ro it.rules.length rc, zv⟩ (it.cols.getD v.length noName) w' (hx.below hb') hr8 hc3 hwd
    simpa only [iv, icells] using this)
  simp only [iv, icells]
  obtain ⟨gc, rfl, -, hgc⟩ := hx.1.at1 hvl
  have hcap : it.cols.length ≤ cc := by
    rcases hx.1 with ⟨h0, _⟩ | ⟨g, c, he, h1, _⟩
    · simp only at h0; omega
    · simp only [Value.slice.injEq, true_and] at he
      simp only at h1
      omega
  obtain ⟨w1, hw1⟩ : ∃ w1, w1 = w.alloc (.cells #[.string it.name, .bool it.isT, .int .i64 (it.marks : Int), .int .u8 it.policy, .slice (some ⟨gc, 0, none⟩) it.cols.length cc, .int .i64 (it.drops : Int), .slice ro it.rules.length rc] 119) := ⟨_, rfl⟩
  have hb1 : Below w.heap.size w w1 := by rw [hw1]; exact (Below.refl _ w).alloc (Nat.le_refl _) _
  have hN1 : w1.heap[w.heap.size]? = some (.cells #[.string it.name, .bool it.isT, .int .i64 (it.marks : Int), .int .u8 it.policy, .slice (some ⟨gc, 0, none⟩) it.cols.length cc, .int .i64 (it.drops : Int), .slice ro it.rules.length rc] 119) := by rw [hw1]; exact alloc_last w _
  have hcs : ∀ j, j < it.cols.length → w1.cell? ⟨gc, 0 + j, none⟩ = some (.string (it.cols.getD j ByteArray.empty)) := fun j hj => by
    obtain ⟨g', hg', k1, _⟩ := (hx.1.below hb1).at1 hj
    simp only [Option.some.injEq, Addr.mk.injEq, and_true] at hg'
    subst hg'
    rw [Nat.zero_add, k1, getD_at _ _ hj]
    simp [hj]
  have k0 : w1.cell? ⟨gc, v.length, none⟩ = some (.string (it.cols.getD v.length noName)) := by
    have := hcs v.length hvl
    rw [Nat.zero_add] at this
    rw [this, getD_at _ _ hvl, getD_at _ _ hvl]
  have k0w : w.cell? ⟨gc, v.length, none⟩ = some (.string (it.cols.getD v.length noName)) := by
    obtain ⟨g', hg', k1, _⟩ := hx.1.at1 hvl
    simp only [Option.some.injEq, Addr.mk.injEq, and_true] at hg'
    subst hg'
    rw [k1, getD_at _ _ hvl]
    simp [hvl]
  have hgc1 : gc < w1.heap.size := Nat.lt_of_lt_of_le hgc hb1.size
  obtain ⟨⟨c0, c1, c2, c3, c4, c5, c6⟩, -⟩ := cells7 hN1
  have hs1 := lt_of_block hN1
  have HIDX : Hid (∀ W, W = w1 ∨ W = w1.drew → Calls Tryz.prog 165 #[.slice (some ⟨gc, 0, none⟩) v.length cc, .string (it.cols.getD v.length noName)] W fun e w' => e = .returned (.int .i64 (earlierP it.cols v.length)) ∧ w' = W) := hide (fun W hW => by
    refine Tryz.slices_Index_string gc 0 v.length cc it.cols _ W (Nat.le_of_lt hvl) (by omega) ?_
    rcases hW with rfl | rfl
    · exact hcs
    · exact hcs)
  have HB1 := hide hb1
  have hvc : (v.length : Int) < it.cols.length := by omega
  have hvk : (v.length : Int) ≤ cc := by omega
  have HCH : Hid (choiceP it.cols it.rules v = if 0 ≤ earlierP it.cols v.length then [v.getD (earlierP it.cols v.length).toNat 0] else candP it.cols (it.cols.getD v.length noName) it.rules) := hide rfl
  have hcase := earlier_case hvl
  clear hx hfv hwd hcs hb1 hN1
  obtain ⟨cl, hcl⟩ : ∃ cl, it.cols.getD v.length noName = cl := ⟨_, rfl⟩
  rw [hcl] at HCAND k0 k0w HIDX HCH
  obtain ⟨ei, hei⟩ : ∃ ei, earlierP it.cols v.length = ei := ⟨_, rfl⟩
  rw [hei] at HIDX HCH hcase
  clear hcl hei
  rcases hcase with ⟨rfl, _⟩ | ⟨j, hj, rfl, _⟩
  · rw [if_neg (by decide)] at HCH
    go_enter Tryz.func135, Tryz.ntmps135
    go_wp2_with fail
    rw [← hw1]
    clear hw1
    go_wp2_with fail
    refine (unhide HIDX _ (by first | exact Or.inl rfl | exact Or.inr rfl)).mono ?_
    rintro e w2 ⟨rfl, rfl⟩
    go_wp2_with fail
    refine (unhide HCAND _ (by first | exact unhide HB1 | exact (unhide HB1).drew)).mono ?_
    rintro e w3 ⟨v', rfl, hb3, hs3⟩
    have HB3 := hide (below_after (unhide HB1) hb3)
    have HS3 := hide hs3
    clear hb3 hs3
    go_wp2_with fail
    go_ret
    refine ⟨_, rfl, unhide HB3, ?_⟩
    rw [unhide HCH]
    exact unhide HS3
  · rw [if_pos (by omega), Int.toNat_natCast, getD_at _ _ hj] at HCH
    obtain ⟨gf, rfl, y0, hgf⟩ := ((unhide HF).below (unhide HB1)).at1 hj
    rw [show (ints v)[j]? = some (.int .i64 v[j]) by simp [ints, hj]] at y0
    have hjc : (j : Int) < v.length := by omega
    have hjn : ¬ (j : Int) < 0 := by omega
    have hjp : (0 : Int) ≤ j := by omega
    generalize v[j] = y at *
    go_enter Tryz.func135, Tryz.ntmps135
    go_wp2_with fail
    rw [← hw1]
    clear hw1
    go_wp2_with fail
    refine (unhide HIDX _ (by first | exact Or.inl rfl | exact Or.inr rfl)).mono ?_
    rintro e w2 ⟨rfl, rfl⟩
    go_wp2_with fail
    go_ret
    refine ⟨_, rfl, (unhide HB1).alloc (unhide HB1).size _, ?_⟩
    rw [unhide HCH]
    exact sl_of_arr (l := ints [y]) (alloc_last w2 _) (by decide) (by decide)
end Go.Proofs.YthnggjaecngbiaaGreatDoor
