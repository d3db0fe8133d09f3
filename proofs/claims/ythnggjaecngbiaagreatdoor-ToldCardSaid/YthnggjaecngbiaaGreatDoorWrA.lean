import Derived.Test.YthnggjaecngbiaaGreatDoorKpE
import Derived.Test.YthnggjaecngbiaaGreatDoorPbA
namespace Go.Proofs.YthnggjaecngbiaaGreatDoor
open Go.RowKit

theorem RunAt.cells {base : Nat} {w : World} {b : Nat} {its : List PItem} (h : RunAt base w b its) : ∃ g, w.cell? ⟨b, 0, none⟩ = some (.pointer (some ⟨g, 0, none⟩)) ∧ w.cell? ⟨b, 2, none⟩ = some (.int .i64 (inputsP its : Int)) ∧ b < w.heap.size ∧ PlanAt w g its := by
  obtain ⟨g, v, h1, h2, _⟩ := h
  obtain ⟨⟨c0, _, c2⟩, _⟩ := box3 h1
  exact ⟨g, c0, c2, lt_of_block h1, h2⟩
theorem inputsP_le {its : List PItem} (ok : OkPlan its) : inputsP its ≤ 12 := by
  have := inputsTo_le its its.length
  have := ok.len
  unfold inputsP
  omega

set_option maxRecDepth 100000 in
set_option maxHeartbeats 3200000 in
theorem written_any (s : ByteArray) (rv : Value) (raw : List Int) (clear : Int) (w : World) (hm : s.size ≤ maxLen) (hraw : RawV w rv raw) (hrb : ∀ x ∈ raw, -9223372036854775808 ≤ x ∧ x ≤ 9223372036854775807) (hc1 : -9223372036854775808 ≤ clear) (hc2 : clear ≤ 9223372036854775807) (ht : Tab w) :
    Calls Tryz.prog 4 #[.string s, rv, .int .i64 clear] w fun e w' => e = .returned (.bool true) ∧ Below w.heap.size w w' := by
  obtain ⟨ro, rc, rfl⟩ := hraw.form
  have HT := hide ht
  have HM := hide hm
  have HR := hide hraw
  have HRB := hide hrb
  have hm' : s.size ≤ 9223372036854775807 := hm
  clear ht hm hraw hrb
  cases hp : planOf s with
  | inl ne =>
    obtain ⟨n0, e0⟩ := ne
    have HPS : Hid (plainR s = ([], n0, e0)) := hide (by rw [plainR_of, hp])
    have hne0 := planOf_inl_ne hp
    have hpl := planOf_place hp
    have hplc : (n0 : Int) ≤ s.size := by omega
    have hp0 : (0 : Int) ≤ (n0 : Int) := by omega
    clear hp
    go_enter Tryz.func4, Tryz.ntmps4
    go_wp2_with fail
    refine (begun_any _ (unhide HT)).mono ?_
    rintro e w1 ⟨rfl, hb1⟩
    have HB1 := hide hb1
    have HT1 := hide (tab_below hb1 (unhide HT))
    clear hb1
    go_wp2_with fail
    refine (plain_any s _ (unhide HM) (unhide HT1)).mono ?_
    rintro e w2 ⟨rfl, hb2⟩
    rw [unhide HPS]
    have HB2 := hide (below_after (unhide HB1) hb2)
    clear hb2
    simp only
    go_wp2_with fail
    go_ret
    exact ⟨rfl, unhide HB2⟩
  | inr its =>
    have HPS : Hid (plainR s = (planOut its, its.length, 0)) := hide (by rw [plainR_of, hp])
    have hok := planOf_ok hp
    have hl12 := hok.len
    by_cases hlong : (planOut its).length ≤ 1000
    · have hp2 := planOf_plain hp hlong
      obtain ⟨S, hS⟩ : ∃ S : ByteArray, S = ⟨(planOut its).toArray⟩ := ⟨_, rfl⟩
      rw [← hS] at hp2
      have HPS2 : Hid (plainR S = (planOut its, its.length, 0)) := hide (by rw [plainR_of, hp2])
      have hSs : S.size = (planOut its).length := by rw [hS]; show (planOut its).toArray.size = _; rw [List.size_toArray]
      have HMS : Hid (S.size ≤ maxLen) := hide (by unfold maxLen; omega)
      have HK1 : Hid (planK s = its) := hide (by unfold planK; rw [hp])
      have HK2 : Hid (planK S = its) := hide (by unfold planK; rw [hp2])
      have HS := hide hS
      have hSc : ¬ (1000 : Int) < (S.size : Int) := by omega
      have hin := inputsP_le hok
      have HOK := hide hok
      clear hp hp2 hS hok
      go_enter Tryz.func4, Tryz.ntmps4
      go_wp2_with fail
      refine (begun_any _ (unhide HT)).mono ?_
      rintro e w1 ⟨rfl, hb1⟩
      have HB1 := hide hb1
      have HT1 := hide (tab_below hb1 (unhide HT))
      clear hb1
      go_wp2_with fail
      refine (plain_any s _ (unhide HM) (unhide HT1)).mono ?_
      rintro e w2 ⟨rfl, hb2⟩
      rw [unhide HPS, ← unhide HS]
      have HB2 := hide (below_after (unhide HB1) hb2)
      have HT2 := hide (tab_below hb2 (unhide HT1))
      clear hb2
      simp only
      go_wp2_with fail
      refine (plain_any S _ (unhide HMS) (unhide HT2)).mono ?_
      rintro e w3 ⟨rfl, hb3⟩
      rw [unhide HPS2, ← unhide HS]
      have HB3 := hide (below_after (unhide HB2) hb3)
      have HT3 := hide (tab_below hb3 (unhide HT2))
      clear hb3
      simp only
      go_wp2_with fail
      refine (made_any s _ (unhide HM) (unhide HT3)).mono ?_
      rintro e w4 ⟨ba, rfl, hb4, hra⟩
      rw [unhide HK1] at hra
      have HB4 := hide (below_after (unhide HB3) hb4)
      have HT4 := hide (tab_below hb4 (unhide HT3))
      have HRA := hide hra
      clear hb4 hra
      go_wp2_with fail
      refine (made_any S _ (unhide HMS) (unhide HT4)).mono ?_
      rintro e w5 ⟨bb, rfl, hb5, hrb⟩
      rw [unhide HK2] at hrb
      have HB5 := hide (below_after (unhide HB4) hb5)
      have HT5 := hide (tab_below hb5 (unhide HT4))
      have HRA5 := hide ((unhide HRA).below hb5)
      have HRB5 := hide hrb
      clear hb5 hrb
      go_wp2_with fail
      refine (values_any _ ba its _ raw _ (unhide HRA5) ((unhide HR).below (unhide HB5)) (unhide HRB) hin).mono ?_
      rintro e w6 ⟨vv6, rfl, hb6, hvo⟩
      obtain ⟨vo, vc, rfl⟩ := (SlAt.of_owns hvo).form
      have HB6 := hide (below_after (unhide HB5) hb6)
      have HT6 := hide (tab_below hb6 (unhide HT5))
      have HRA6 := hide ((unhide HRA5).below hb6)
      have HRB6 := hide ((unhide HRB5).below hb6)
      have HV6 := hide (SlAt.of_owns hvo)
      clear hb6 hvo
      go_wp2_with fail
      refine (pick_any clear 8 _ (by omega) (by omega) hc1 hc2).mono ?_
      rintro e w9 ⟨rfl, hw9⟩
      rw [hw9]
      clear hw9 w9
      have hpk : pickP clear 8 < 8 := Nat.mod_lt _ (by omega)
      generalize pickP clear 8 = c at *
      have HEX : Hid (explR its (c : Int) (valsK raw (inputsP its)) = (explainP its c (valsK raw (inputsP its)), 0)) := hide (by
        unfold explR
        rw [if_pos ⟨⟨by omega, by omega⟩, valsK_fits its raw⟩, Int.toNat_natCast])
      obtain ⟨ga, a0, a2, al, hpa⟩ := (unhide HRA6).cells
      have HPA := hide hpa
      clear hpa
      go_wp2_with fail
      refine (explain_any ga its _ _ (valsK raw (inputsP its)) _ (unhide HPA) (unhide HV6) (unhide HT6)).mono ?_
      rintro e w7 ⟨rfl, hb7⟩
      rw [unhide HEX]
      have HB7 := hide (below_after (unhide HB6) hb7)
      have HT7 := hide (tab_below hb7 (unhide HT6))
      have hRB7 := (unhide HRB6).below hb7
      have HV7 := hide ((unhide HV6).below hb7)
      obtain ⟨gb, d0, d2, dl, hpb⟩ := hRB7.cells
      have HPB := hide hpb
      clear hb7 hpb hRB7 a0 a2 al
      simp only
      go_wp2_with fail
      refine (explain_any gb its _ _ (valsK raw (inputsP its)) _ (unhide HPB) (unhide HV7) (unhide HT7)).mono ?_
      rintro e w8 ⟨rfl, hb8⟩
      rw [unhide HEX]
      have HB8 := hide (below_after (unhide HB7) hb8)
      clear hb8
      simp only
      go_wp2_with fail
      go_ret
      exact ⟨ret_bool (by simp), unhide HB8⟩
    · have hlc : (1000 : Int) < (planOut its).length := by omega
      have HLC : Hid (((⟨(planOut its).toArray⟩ : ByteArray).size : Int) = (planOut its).length) := hide (by show ((planOut its).toArray.size : Int) = _; rw [List.size_toArray])
      obtain ⟨S, hS⟩ : ∃ S : ByteArray, S = ⟨(planOut its).toArray⟩ := ⟨_, rfl⟩
      have hSc : (1000 : Int) < (S.size : Int) := by rw [hS, unhide HLC]; exact hlc
      have HS := hide hS
      clear hp hS hok
      go_enter Tryz.func4, Tryz.ntmps4
      go_wp2_with fail
      refine (begun_any _ (unhide HT)).mono ?_
      rintro e w1 ⟨rfl, hb1⟩
      have HB1 := hide hb1
      have HT1 := hide (tab_below hb1 (unhide HT))
      clear hb1
      go_wp2_with fail
      refine (plain_any s _ (unhide HM) (unhide HT1)).mono ?_
      rintro e w2 ⟨rfl, hb2⟩
      rw [unhide HPS, ← unhide HS]
      have HB2 := hide (below_after (unhide HB1) hb2)
      clear hb2
      simp only
      go_wp2_with fail
      go_ret
      exact ⟨rfl, unhide HB2⟩
end Go.Proofs.YthnggjaecngbiaaGreatDoor
