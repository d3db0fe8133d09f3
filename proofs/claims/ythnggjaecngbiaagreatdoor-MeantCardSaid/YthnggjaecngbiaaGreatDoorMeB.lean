import Derived.Test.YthnggjaecngbiaaGreatDoorDgA
import Derived.Test.YthnggjaecngbiaaGreatDoorPbA
import Derived.Test.YthnggjaecngbiaaGreatDoorKpE
namespace Go.Proofs.YthnggjaecngbiaaGreatDoor
open Go.RowKit

/-- A raw rule of five numbers. -/
structure RawR where
  x : Int
  y : Int
  u : Int
  v : Int
  n : Int
def numM (c : Int) : Int := (pickP c 2001 : Int) - 1000
def ruleM (r : RawR) : PRule := ⟨[testM r.x r.y, testM r.u r.v], numM r.n⟩
def nmX : ByteArray := ⟨#[120]⟩
def nmY : ByteArray := ⟨#[121]⟩
def nmT : ByteArray := ⟨#[116]⟩
def planM (pol : Int) (rs : List RawR) : List PItem := [⟨nmX, false, 0, 0, [], 0, []⟩, ⟨nmY, false, 0, 0, [], 0, []⟩, ⟨nmT, true, 0, pol, [nmX, nmY], 0, rs.map ruleM⟩]
/-- The text up to the rules. -/
def headM (pol : Int) : List UInt8 := [105, 110, 32, 120, 59, 105, 110, 32, 121, 59, 116, 97, 98, 108, 101, 32, 116, 32] ++ [u8 pol] ++ [40, 120, 44, 121, 41, 123]
def textM (pol : Int) (rs : List RawR) : List UInt8 := headM pol ++ (rs.map ruleM).flatMap ruleOut

theorem numM_bd (c : Int) : -1000 ≤ numM c ∧ numM c ≤ 1000 := by
  have : pickP c 2001 < 2001 := Nat.mod_lt _ (by omega)
  unfold numM
  omega
theorem testM_can (x y : Int) : CanT (testM x y) ∧ (-20 ≤ (testM x y).low ∧ (testM x y).low ≤ 20) ∧ (-20 ≤ (testM x y).high ∧ (testM x y).high ≤ 20) := by
  have hx := smallP_bd x
  have hy := smallP_bd y
  unfold testM
  split
  · exact ⟨⟨by simp, by simp only; omega, by simp, by simp, by simp⟩, by simp only; omega, by simp⟩
  · exact ⟨⟨by simp, by simp only; omega, by simp only; omega, by simp, by simp⟩, by simp only; omega, by simp only; omega⟩
theorem ruleM_can (r : RawR) : CanR (ruleM r) := by
  have hn := numM_bd r.n
  refine ⟨by simp [ruleM], fun t ht => ?_, by simp only [ruleM]; omega⟩
  simp [ruleM] at ht
  rcases ht with rfl | rfl
  · exact (testM_can _ _).1
  · exact (testM_can _ _).1
theorem planM_can {pol : Int} (hp : isPol pol = true) (rs : List RawR) : ∀ it ∈ planM pol rs, CanI it := by
  have hX : NameOK nmX := ⟨by unfold isNameB; rw [ByteArray.toList_eq]; rfl, by decide⟩
  have hY : NameOK nmY := ⟨by unfold isNameB; rw [ByteArray.toList_eq]; rfl, by decide⟩
  have hT : NameOK nmT := ⟨by unfold isNameB; rw [ByteArray.toList_eq]; rfl, by decide⟩
  intro it hi
  simp [planM] at hi
  rcases hi with rfl | rfl | rfl
  · exact Or.inl ⟨rfl, hX, by simp, rfl, rfl, rfl, rfl⟩
  · exact Or.inl ⟨rfl, hY, by simp, rfl, rfl, rfl, rfl⟩
  · refine Or.inr ⟨rfl, hT, rfl, hp, by simp, fun c hc => ?_, by simp, fun r hr => ?_⟩
    · simp at hc
      rcases hc with rfl | rfl
      · exact hX
      · exact hY
    · simp only [List.mem_map] at hr
      obtain ⟨q, _, rfl⟩ := hr
      exact ruleM_can q
theorem planR_M {pol : Int} (hp : isPol pol = true) (rs : List RawR) : planR ⟨(textM pol rs ++ [125]).toArray⟩ = .inr (planM pol rs) := by
  have h := planR_of_out (s := ⟨(textM pol rs ++ [125]).toArray⟩) ((planM pol rs).map fun it => (it, [])) (by
    simp [planM, textM, headM, itemOut0, inputOut, tableOut, marksOut, joinOut, Lib.join, List.intercalate, nmX, nmY, nmT]) (fun p hp' => by
    rw [List.mem_map] at hp'
    obtain ⟨it, hi, rfl⟩ := hp'
    exact ⟨planM_can hp rs it hi, fun c hc => by simp at hc⟩)
  rw [h, List.map_map]
  congr 1
theorem ruleM_len (r : RawR) : (ruleOut (ruleM r)).length ≤ 100 := by
  have hx := smallP_bd r.x
  have hy := smallP_bd r.y
  have hu := smallP_bd r.u
  have hv := smallP_bd r.v
  have hn := numM_bd r.n
  have key : ∀ x y : Int, (testOut (testM x y)).length ≤ 20 := fun x y => by
    have hx := smallP_bd x
    have hy := smallP_bd y
    have h1 := itoa_len (n := smallP x) (by omega) (by omega)
    have h2 := itoa_len (n := smallP y) (by omega) (by omega)
    unfold testM
    split
    · simp [testOut, bareOut, Lib.repeatL]; omega
    · simp [testOut, bareOut, Lib.repeatL]; omega
  have h1 := key r.x r.y
  have h2 := key r.u r.v
  have h3 := itoa_len (n := numM r.n) (by omega) (by omega)
  simp [ruleOut, ruleM, tOuts]
  omega
theorem rulesM_len : ∀ rs : List RawR, ((rs.map ruleM).flatMap ruleOut).length ≤ rs.length * 100
  | [] => by simp
  | r :: rs => by
    have h1 := ruleM_len r
    have h2 := rulesM_len rs
    rw [List.map_cons, List.flatMap_cons, List.length_append, List.length_cons]
    omega
theorem textM_len {pol : Int} {rs : List RawR} (h : rs.length ≤ 8) : (textM pol rs).length ≤ 900 := by
  have := rulesM_len rs
  unfold textM headM
  simp only [List.length_append, List.length_cons, List.length_nil]
  omega
theorem planM_check {pol : Int} {rs : List RawR} (h : rs.length ≤ 8) : checkR (planM pol rs) = (0, 0) := by
  have hr : ∀ r : RawR, ruleBeyond (ruleM r) = false := fun r => by
    have hn := numM_bd r.n
    have h1 := testM_can r.x r.y
    have h2 := testM_can r.u r.v
    have nb : ∀ n : Int, -1000 ≤ n → n ≤ 1000 → numBeyond n = false := fun n a b => by unfold numBeyond; simp; omega
    unfold ruleBeyond ruleM testBeyond
    simp only [List.any_cons, List.any_nil, Bool.or_false]
    rw [nb _ hn.1 hn.2, nb _ (by omega) (by omega), nb _ (by omega) (by omega), nb _ (by omega) (by omega), nb _ (by omega) (by omega)]
    rfl
  have hb : beyondB (planM pol rs) = false := by
    unfold beyondB planM itemBeyond
    have h8 : ¬ 8 < rs.length := by omega
    simp [h8, hr]
  have hw : ((rs.map ruleM).any fun r => decide (r.tests.length ≠ 2)) = false := by
    rw [List.any_eq_false]
    intro r hr'
    rw [List.mem_map] at hr'
    obtain ⟨q, _, rfl⟩ := hr'
    simp [ruleM]
  have n1 : namedP [] nmX = false := rfl
  have e1 : checkItemP ⟨nmX, false, 0, 0, [], 0, []⟩ [] = 0 := by unfold checkItemP; rw [n1]; rfl
  have n2 : namedP [⟨nmX, false, 0, 0, [], 0, []⟩] nmY = false := by kernel_rfl
  have e2 : checkItemP ⟨nmY, false, 0, 0, [], 0, []⟩ [⟨nmX, false, 0, 0, [], 0, []⟩] = 0 := by unfold checkItemP; rw [n2]; rfl
  have n3 : namedP [⟨nmX, false, 0, 0, [], 0, []⟩, ⟨nmY, false, 0, 0, [], 0, []⟩] nmT = false := by kernel_rfl
  have n4 : namedP [⟨nmX, false, 0, 0, [], 0, []⟩, ⟨nmY, false, 0, 0, [], 0, []⟩] nmX = true := by kernel_rfl
  have n5 : namedP [⟨nmX, false, 0, 0, [], 0, []⟩, ⟨nmY, false, 0, 0, [], 0, []⟩] nmY = true := by kernel_rfl
  have e3 : checkItemP ⟨nmT, true, 0, pol, [nmX, nmY], 0, rs.map ruleM⟩ [⟨nmX, false, 0, 0, [], 0, []⟩, ⟨nmY, false, 0, 0, [], 0, []⟩] = 0 := by
    unfold checkItemP
    rw [n3, if_neg (by simp)]
    simp only [List.any_cons, List.any_nil, n4, n5, Bool.not_true, Bool.or_false, List.length_cons, List.length_nil]
    rw [if_neg (by simp), if_neg (by intro hx; rw [show ((rs.map ruleM).any fun r => decide (r.tests.length ≠ 0 + 1 + 1)) = false from hw] at hx; cases hx)]
  unfold checkR
  rw [hb, if_neg (by simp)]
  unfold planM
  simp only [checkL, e1, e2, e3, List.nil_append, List.cons_append, if_true]
theorem planOf_M {pol : Int} (hp : isPol pol = true) {rs : List RawR} (h : rs.length ≤ 8) : planOf ⟨(textM pol rs ++ [125]).toArray⟩ = .inr (planM pol rs) := by
  have hl := textM_len (pol := pol) h
  have hsz : ¬ 1000 < (⟨(textM pol rs ++ [125]).toArray⟩ : ByteArray).size := by
    show ¬ 1000 < (textM pol rs ++ [125]).toArray.size
    rw [List.size_toArray, List.length_append]
    simp only [List.length_cons, List.length_nil]
    omega
  unfold planOf
  rw [if_neg hsz, planR_M hp rs]
  simp only [planM_check h, if_true]
end Go.Proofs.YthnggjaecngbiaaGreatDoor

namespace Go.Proofs.YthnggjaecngbiaaGreatDoor
open Go.RowKit

theorem RunAt.cells {base : Nat} {w : World} {b : Nat} {its : List PItem} (h : RunAt base w b its) : ∃ g, w.cell? ⟨b, 0, none⟩ = some (.pointer (some ⟨g, 0, none⟩)) ∧ w.cell? ⟨b, 2, none⟩ = some (.int .i64 (inputsP its : Int)) ∧ b < w.heap.size ∧ PlanAt w g its := by
  obtain ⟨g, v, h1, h2, _⟩ := h
  obtain ⟨⟨c0, _, c2⟩, _⟩ := box3 h1
  exact ⟨g, c0, c2, lt_of_block h1, h2⟩
theorem inputsP_le {its : List PItem} (ok : OkPlan its) : inputsP its ≤ 12 := by
  have := inputsTo_le its its.length
  have := ok.len
  unfold inputsP
  omega

set_option maxRecDepth 100000 in
set_option maxHeartbeats 3200000 in
theorem written_any (s : ByteArray) (rv : Value) (raw : List Int) (clear : Int) (w : World) (hm : s.size ≤ maxLen) (hraw : RawV w rv raw) (hrb : ∀ x ∈ raw, -9223372036854775808 ≤ x ∧ x ≤ 9223372036854775807) (hc1 : -9223372036854775808 ≤ clear) (hc2 : clear ≤ 9223372036854775807) (ht : Tab w) :
    Calls Tryz.prog 4 #[.string s, rv, .int .i64 clear] w fun e w' => e = .returned (.bool true) ∧ Below w.heap.size w w' := by
  obtain ⟨ro, rc, rfl⟩ := hraw.form
  have HT := hide ht
  have HM := hide hm
  have HR := hide hraw
  have HRB := hide hrb
  have hm' : s.size ≤ 9223372036854775807 := hm
  clear ht hm hraw hrb
  cases hp : planOf s with
  | inl ne =>
    obtain ⟨n0, e0⟩ := ne
    have HPS : Hid (plainR s = ([], n0, e0)) := hide (by rw [plainR_of, hp])
    have hne0 := planOf_inl_ne hp
    have hpl := planOf_place hp
    have hplc : (n0 : Int) ≤ s.size := by omega
    have hp0 : (0 : Int) ≤ (n0 : Int) := by omega
    clear hp
    go_enter Tryz.func4, Tryz.ntmps4
    go_wp2_with fail
    refine (begun_any _ (unhide HT)).mono ?_
    rintro e w1 ⟨rfl, hb1⟩
    have HB1 := hide hb1
    have HT1 := hide (tab_below hb1 (unhide HT))
    clear hb1
    go_wp2_with fail
    refine (plain_any s _ (unhide HM) (unhide HT1)).mono ?_
    rintro e w2 ⟨rfl, hb2⟩
    rw [unhide HPS]
    have HB2 := hide (below_after (unhide HB1) hb2)
    clear hb2
    simp only
    go_wp2_with fail
    go_ret
    exact ⟨rfl, unhide HB2⟩
  | inr its =>
    have HPS : Hid (plainR s = (planOut its, its.length, 0)) := hide (by rw [plainR_of, hp])
    have hok := planOf_ok hp
    have hl12 := hok.len
    by_cases hlong : (planOut its).length ≤ 1000
    · have hp2 := planOf_plain hp hlong
      obtain ⟨S, hS⟩ : ∃ S : ByteArray, S = ⟨(planOut its).toArray⟩ := ⟨_, rfl⟩
      rw [← hS] at hp2
      have HPS2 : Hid (plainR S = (planOut its, its.length, 0)) := hide (by rw [plainR_of, hp2])
      have hSs : S.size = (planOut its).length := by rw [hS]; show (planOut its).toArray.size = _; rw [List.size_toArray]
      have HMS : Hid (S.size ≤ maxLen) := hide (by unfold maxLen; omega)
      have HK1 : Hid (planK s = its) := hide (by unfold planK; rw [hp])
      have HK2 : Hid (planK S = its) := hide (by unfold planK; rw [hp2])
      have HS := hide hS
      have hSc : ¬ (1000 : Int) < (S.size : Int) := by omega
      have hin := inputsP_le hok
      have HOK := hide hok
      clear hp hp2 hS hok
      go_enter Tryz.func4, Tryz.ntmps4
      go_wp2_with fail
      refine (begun_any _ (unhide HT)).mono ?_
      rintro e w1 ⟨rfl, hb1⟩
      have HB1 := hide hb1
      have HT1 := hide (tab_below hb1 (unhide HT))
      clear hb1
      go_wp2_with fail
      refine (plain_any s _ (unhide HM) (unhide HT1)).mono ?_
      rintro e w2 ⟨rfl, hb2⟩
      rw [unhide HPS, ← unhide HS]
      have HB2 := hide (below_after (unhide HB1) hb2)
      have HT2 := hide (tab_below hb2 (unhide HT1))
      clear hb2
      simp only
      go_wp2_with fail
      refine (plain_any S _ (unhide HMS) (unhide HT2)).mono ?_
      rintro e w3 ⟨rfl, hb3⟩
      rw [unhide HPS2, ← unhide HS]
      have HB3 := hide (below_after (unhide HB2) hb3)
      have HT3 := hide (tab_below hb3 (unhide HT2))
      clear hb3
      simp only
      go_wp2_with fail
      refine (made_any s _ (unhide HM) (unhide HT3)).mono ?_
      rintro e w4 ⟨ba, rfl, hb4, hra⟩
      rw [unhide HK1] at hra
      have HB4 := hide (below_after (unhide HB3) hb4)
      have HT4 := hide (tab_below hb4 (unhide HT3))
      have HRA := hide hra
      clear hb4 hra
      go_wp2_with fail
      refine (made_any S _ (unhide HMS) (unhide HT4)).mono ?_
      rintro e w5 ⟨bb, rfl, hb5, hrb⟩
      rw [unhide HK2] at hrb
      have HB5 := hide (below_after (unhide HB4) hb5)
      have HT5 := hide (tab_below hb5 (unhide HT4))
      have HRA5 := hide ((unhide HRA).below hb5)
      have HRB5 := hide hrb
      clear hb5 hrb
      go_wp2_with fail
      refine (values_any _ ba its _ raw _ (unhide HRA5) ((unhide HR).below (unhide HB5)) (unhide HRB) hin).mono ?_
      rintro e w6 ⟨vv6, rfl, hb6, hvo⟩
      obtain ⟨vo, vc, rfl⟩ := (SlAt.of_owns hvo).form
      have HB6 := hide (below_after (unhide HB5) hb6)
      have HT6 := hide (tab_below hb6 (unhide HT5))
      have HRA6 := hide ((unhide HRA5).below hb6)
      have HRB6 := hide ((unhide HRB5).below hb6)
      have HV6 := hide (SlAt.of_owns hvo)
      clear hb6 hvo
      go_wp2_with fail
      refine (pick_any clear 8 _ (by omega) (by omega) hc1 hc2).mono ?_
      rintro e w9 ⟨rfl, hw9⟩
      rw [hw9]
      clear hw9 w9
      have hpk : pickP clear 8 < 8 := Nat.mod_lt _ (by omega)
      generalize pickP clear 8 = c at *
      have HEX : Hid (explR its (c : Int) (valsK raw (inputsP its)) = (explainP its c (valsK raw (inputsP its)), 0)) := hide (by
        unfold explR
        rw [if_pos ⟨⟨by omega, by omega⟩, valsK_fits its raw⟩, Int.toNat_natCast])
      obtain ⟨ga, a0, a2, al, hpa⟩ := (unhide HRA6).cells
      have HPA := hide hpa
      clear hpa
      go_wp2_with fail
      refine (explain_any ga its _ _ (valsK raw (inputsP its)) _ (unhide HPA) (unhide HV6) (unhide HT6)).mono ?_
      rintro e w7 ⟨rfl, hb7⟩
      rw [unhide HEX]
      have HB7 := hide (below_after (unhide HB6) hb7)
      have HT7 := hide (tab_below hb7 (unhide HT6))
      have hRB7 := (unhide HRB6).below hb7
      have HV7 := hide ((unhide HV6).below hb7)
      obtain ⟨gb, d0, d2, dl, hpb⟩ := hRB7.cells
      have HPB := hide hpb
      clear hb7 hpb hRB7 a0 a2 al
      simp only
      go_wp2_with fail
      refine (explain_any gb its _ _ (valsK raw (inputsP its)) _ (unhide HPB) (unhide HV7) (unhide HT7)).mono ?_
      rintro e w8 ⟨rfl, hb8⟩
      rw [unhide HEX]
      have HB8 := hide (below_after (unhide HB7) hb8)
      clear hb8
      simp only
      go_wp2_with fail
      go_ret
      exact ⟨ret_bool (by simp), unhide HB8⟩
    · have hlc : (1000 : Int) < (planOut its).length := by omega
      have HLC : Hid (((⟨(planOut its).toArray⟩ : ByteArray).size : Int) = (planOut its).length) := hide (by show ((planOut its).toArray.size : Int) = _; rw [List.size_toArray])
      obtain ⟨S, hS⟩ : ∃ S : ByteArray, S = ⟨(planOut its).toArray⟩ := ⟨_, rfl⟩
      have hSc : (1000 : Int) < (S.size : Int) := by rw [hS, unhide HLC]; exact hlc
      have HS := hide hS
      clear hp hS hok
      go_enter Tryz.func4, Tryz.ntmps4
      go_wp2_with fail
      refine (begun_any _ (unhide HT)).mono ?_
      rintro e w1 ⟨rfl, hb1⟩
      have HB1 := hide hb1
      have HT1 := hide (tab_below hb1 (unhide HT))
      clear hb1
      go_wp2_with fail
      refine (plain_any s _ (unhide HM) (unhide HT1)).mono ?_
      rintro e w2 ⟨rfl, hb2⟩
      rw [unhide HPS, ← unhide HS]
      have HB2 := hide (below_after (unhide HB1) hb2)
      clear hb2
      simp only
      go_wp2_with fail
      go_ret
      exact ⟨rfl, unhide HB2⟩
end Go.Proofs.YthnggjaecngbiaaGreatDoor

