import Derived.Test.YtdgbmcbkbkbdoaaGreatDoorFcA
import Derived.Test.YtdgbmcbkbkbdoaaGreatDoorFtA
import Derived.Test.YtdgbmcbkbkbdoaaGreatDoorLbA
import Derived.Test.YtdgbmcbkbkbdoaaGreatDoorEvJ
import Derived.Test.YtdgbmcbkbkbdoaaGreatDoorExC
namespace Go.Proofs.YtdgbmcbkbkbdoaaGreatDoor
open Go.RowKit

set_option maxHeartbeats 400000 in
theorem all_any (g : Nat) (v : Value) (w : World) (h : w.heap[g]? = some (.cells #[v] 94)) (hv : ∃ ao n cap, v = .slice ao n cap) :
    Calls Tryz.prog 38 #[.pointer (some ⟨g, 0, none⟩)] w fun e w' => e = .returned v ∧ w' = w := by
  obtain ⟨ao, n, cap, rfl⟩ := hv
  have c0 : w.cell? ⟨g, 0, none⟩ = some (.slice ao n cap) := by simp [World.cell?, h]
  have hl := lt_of_block h
  clear h
  go_enter Tryz.func38, Tryz.ntmps38
  go_wp2
  go_ret
  exact ⟨rfl, rfl⟩

/-- What Label answers. -/
def labelP (its : List PItem) (nm : ByteArray) : Int × Int := if namedP its nm then ((((labsP its).getD (placeP its nm).toNat 0 : Nat) : Int), 0) else (0, 4)

set_option maxRecDepth 100000 in
set_option maxHeartbeats 800000 in
theorem label_any (g : Nat) (its : List PItem) (nm : ByteArray) (w : World) (h : PlanAt w g its) :
    Calls Tryz.prog 16 #[.pointer (some ⟨g, 0, none⟩), .string nm] w fun e w' => e = .returned (.tuple #[.int .i64 (labelP its nm).1, .int .i64 (labelP its nm).2]) ∧ Below w.heap.size w w' := by
  obtain ⟨v, xs, hN, hit, hxs, hwf, hok⟩ := h
  obtain ⟨ao, cap, rfl⟩ := hit.1.form
  have hlen : xs.length ≤ 12 := by have := hok.len; rw [← hxs] at this; simpa using this
  have HN := hide hN
  have HI := hide hit
  have HX := hide hxs
  have HK := hide hok
  clear hN hit hxs hok hwf
  cases hn : namedP its nm with
  | false =>
    have HP := hide (placeP_out hn)
    have HL : Hid (labelP its nm = (0, 4)) := hide (by unfold labelP; rw [if_neg (by rw [hn]; simp)])
    clear hn
    go_enter Tryz.func16, Tryz.ntmps16
    go_wp2_with fail
    refine (all_any g _ _ (unhide HN) ⟨_, _, _, rfl⟩).mono ?_
    rintro e w1 ⟨rfl, rfl⟩
    go_wp2_with fail
    refine (place_any _ xs nm _ (unhide HI) (by omega)).mono ?_
    rintro e w2 ⟨rfl, hb2⟩
    rw [unhide HX, unhide HP]
    have HB2 := hide hb2
    clear hb2
    go_wp2_with fail
    go_ret2
    rw [unhide HL]
    exact ⟨rfl, unhide HB2⟩
  | true =>
    obtain ⟨i, hp, hi⟩ := placeP_in hn
    have HL : Hid (labelP its nm = ((((labsP its).getD i 0 : Nat) : Int), 0)) := hide (by unfold labelP; rw [if_pos hn, hp, Int.toNat_natCast])
    have HP := hide hp
    clear hn hp
    go_enter Tryz.func16, Tryz.ntmps16
    go_wp2_with fail
    refine (all_any g _ _ (unhide HN) ⟨_, _, _, rfl⟩).mono ?_
    rintro e w1 ⟨rfl, rfl⟩
    go_wp2_with fail
    refine (place_any _ xs nm _ (unhide HI) (by omega)).mono ?_
    rintro e w2 ⟨rfl, hb2⟩
    rw [unhide HX, unhide HP]
    have HB2 := hide hb2
    have HN2 := hide ((hb2.block _ (lt_of_block (unhide HN))).trans (unhide HN))
    have HI2 := hide ((unhide HI).below hb2)
    clear hb2
    go_wp2_with fail
    refine (all_any g _ _ (unhide HN2) ⟨_, _, _, rfl⟩).mono ?_
    rintro e w3 ⟨rfl, rfl⟩
    go_wp2_with fail
    refine (labels_any _ xs _ (unhide HI2) (by rw [unhide HX]; exact unhide HK)).mono ?_
    rintro e w4 ⟨lv, rfl, hb4, hlo⟩
    rw [unhide HX] at hlo
    have hll : (labsP its).length = its.length := by unfold labsP; rw [labsTo_len]
    rcases SlAt.of_owns hlo with ⟨h0, _⟩ | ⟨g3, cap3, hv3, hc3, hm3, hgl3, hx3⟩
    · omega
    subst hv3
    have k0 : w4.cell? ⟨g3, i, none⟩ = some (.int .i64 ((labsP its).getD i 0 : Int)) := by
      rw [hx3 i (by omega), getD_at _ _ (by omega)]
      simp [nats, hll, hi]
    have hic : (i : Int) < (labsP its).length := by omega
    have HB4 := hide (below_after (unhide HB2) hb4)
    generalize (labsP its).getD i 0 = y at *
    clear hx3 hc3 hm3 hb4 hlo hll
    go_wp2_with fail
    go_ret2
    rw [unhide HL]
    exact ⟨rfl, unhide HB4⟩

/-- What Eval leaves. -/
def EvalOf (its : List PItem) (vals : List Int) (w : World) (e : Ending) (w' : World) : Prop :=
  (fitsP its vals = false ∧ e = .returned (.tuple #[.slice none 0 0, .int .i64 7]) ∧ Below w.heap.size w w') ∨
  (fitsP its vals = true ∧ ∃ ao cap, e = .returned (.tuple #[.slice ao (tabsP its vals).length cap, .int .i64 0]) ∧ Below w.heap.size w w' ∧ w'.ownsRow w.heap.size 51 2 (.slice ao (tabsP its vals).length cap) (tabsP its vals).length ((tabsP its vals).flatMap vcells))

set_option maxRecDepth 100000 in
set_option maxHeartbeats 800000 in
theorem eval_any (g : Nat) (its : List PItem) (vl : Value) (vals : List Int) (w : World) (h : PlanAt w g its) (hvl : SlAt w 1 vl vals.length (ints vals)) :
    Calls Tryz.prog 18 #[.pointer (some ⟨g, 0, none⟩), vl] w (EvalOf its vals w) := by
  obtain ⟨v, xs, hN, hit, hxs, hwf, hok⟩ := h
  obtain ⟨ao, cap, rfl⟩ := hit.1.form
  obtain ⟨vo, vc, rfl⟩ := hvl.form
  have hlen : xs.length ≤ 12 := by have := hok.len; rw [← hxs] at this; simpa using this
  have HN := hide hN
  have HI := hide hit
  have HX := hide hxs
  have HK := hide hok
  have HWF := hide hwf
  have HV := hide hvl
  clear hN hit hxs hok hwf hvl
  cases hf : fitsP its vals with
  | false =>
    have HF := hide hf
    clear hf
    go_enter Tryz.func18, Tryz.ntmps18
    go_wp2_with fail
    refine (all_any g _ _ (unhide HN) ⟨_, _, _, rfl⟩).mono ?_
    rintro e w1 ⟨rfl, rfl⟩
    go_wp2_with fail
    refine (fits_any _ xs _ vals _ (unhide HI) hlen (unhide HV)).mono ?_
    rintro e w2 ⟨rfl, hb2⟩
    rw [unhide HX, unhide HF]
    have HB2 := hide hb2
    clear hb2
    go_wp2_with fail
    go_ret2
    exact Or.inl ⟨unhide HF, rfl, unhide HB2⟩
  | true =>
    have HF := hide hf
    clear hf
    go_enter Tryz.func18, Tryz.ntmps18
    go_wp2_with fail
    refine (all_any g _ _ (unhide HN) ⟨_, _, _, rfl⟩).mono ?_
    rintro e w1 ⟨rfl, rfl⟩
    go_wp2_with fail
    refine (fits_any _ xs _ vals _ (unhide HI) hlen (unhide HV)).mono ?_
    rintro e w2 ⟨rfl, hb2⟩
    rw [unhide HX, unhide HF]
    have HB2 := hide hb2
    have HN2 := hide ((hb2.block _ (lt_of_block (unhide HN))).trans (unhide HN))
    have HI2 := hide ((unhide HI).below hb2)
    have HV2 := hide ((unhide HV).below hb2)
    clear hb2
    go_wp2_with fail
    refine (all_any g _ _ (unhide HN2) ⟨_, _, _, rfl⟩).mono ?_
    rintro e w3 ⟨rfl, rfl⟩
    go_wp2_with fail
    refine (tables_any _ xs _ vals _ (unhide HI2) (by rw [unhide HX]; exact unhide HK) (unhide HWF) (unhide HV2) (by rw [unhide HX]; exact (fits_bd (unhide HF)).1)).mono ?_
    rintro e w4 ⟨tv, rfl, hb4, hto⟩
    rw [unhide HX] at hto
    obtain ⟨tq, tc, rfl⟩ := (SlAt.of_owns hto).form
    have HB4 := hide (below_after (unhide HB2) hb4)
    have HTO := hide (owns_base hto (unhide HB2).size)
    clear hb4 hto
    go_wp2_with fail
    go_ret2
    exact Or.inr ⟨unhide HF, tq, tc, rfl, unhide HB4, unhide HTO⟩

/-- What Explain answers. -/
def explR (its : List PItem) (clear : Int) (vals : List Int) : List UInt8 × Int :=
  if (0 ≤ clear ∧ clear ≤ 7) ∧ fitsP its vals = true then (explainP its clear.toNat vals, 0) else ([], 7)

set_option maxRecDepth 100000 in
set_option maxHeartbeats 800000 in
theorem explain_any (g : Nat) (its : List PItem) (clear : Int) (vl : Value) (vals : List Int) (w : World) (h : PlanAt w g its) (hvl : SlAt w 1 vl vals.length (ints vals)) (ht : Tab w) :
    Calls Tryz.prog 15 #[.pointer (some ⟨g, 0, none⟩), .int .i64 clear, vl] w fun e w' => e = .returned (.tuple #[.string ⟨(explR its clear vals).1.toArray⟩, .int .i64 (explR its clear vals).2]) ∧ Below w.heap.size w w' := by
  obtain ⟨v, xs, hN, hit, hxs, hwf, hok⟩ := h
  obtain ⟨ao, cap, rfl⟩ := hit.1.form
  obtain ⟨vo, vc, rfl⟩ := hvl.form
  have hlen : xs.length ≤ 12 := by have := hok.len; rw [← hxs] at this; simpa using this
  have HN := hide hN
  have HI := hide hit
  have HX := hide hxs
  have HK := hide hok
  have HWF := hide hwf
  have HV := hide hvl
  have HT := hide ht
  clear hN hit hxs hok hwf hvl ht
  cases hc : decide (0 ≤ clear ∧ clear ≤ 7) with
  | false =>
    have HC := hide hc
    have HE : Hid (explR its clear vals = ([], 7)) := hide (by unfold explR; rw [if_neg]; intro h9; simp at hc; omega)
    clear hc
    go_enter Tryz.func15, Tryz.ntmps15
    go_wp2_with fail
    refine (isSet_any _ _).mono ?_
    rintro e w1 ⟨rfl, hb1⟩
    rw [unhide HC]
    have HB1 := hide hb1
    clear hb1
    go_wp2_with fail
    go_ret2
    rw [unhide HE]
    exact ⟨rfl, unhide HB1⟩
  | true =>
    have HC := hide hc
    have hcc : 0 ≤ clear ∧ clear ≤ 7 := by simpa using hc
    clear hc
    cases hf : fitsP its vals with
    | false =>
      have HF := hide hf
      have HE : Hid (explR its clear vals = ([], 7)) := hide (by unfold explR; rw [if_neg]; intro h9; rw [hf] at h9; simp at h9)
      clear hf
      go_enter Tryz.func15, Tryz.ntmps15
      go_wp2_with fail
      refine (isSet_any _ _).mono ?_
      rintro e w1 ⟨rfl, hb1⟩
      rw [unhide HC]
      have HB1 := hide hb1
      have HN1 := hide ((hb1.block _ (lt_of_block (unhide HN))).trans (unhide HN))
      have HI1 := hide ((unhide HI).below hb1)
      have HV1 := hide ((unhide HV).below hb1)
      clear hb1
      go_wp2_with fail
      refine (all_any g _ _ (unhide HN1) ⟨_, _, _, rfl⟩).mono ?_
      rintro e w3 ⟨rfl, rfl⟩
      go_wp2_with fail
      refine (fits_any _ xs _ vals _ (unhide HI1) hlen (unhide HV1)).mono ?_
      rintro e w2 ⟨rfl, hb2⟩
      rw [unhide HX, unhide HF]
      have HB2 := hide (below_after (unhide HB1) hb2)
      clear hb2
      go_wp2_with fail
      go_ret2
      rw [unhide HE]
      exact ⟨rfl, unhide HB2⟩
    | true =>
      have HF := hide hf
      obtain ⟨cl, rfl⟩ : ∃ cl : Nat, clear = (cl : Int) := ⟨clear.toNat, by omega⟩
      have HE : Hid (explR its cl vals = (explainP its cl vals, 0)) := hide (by unfold explR; rw [if_pos ⟨hcc, hf⟩, Int.toNat_natCast])
      clear hf
      go_enter Tryz.func15, Tryz.ntmps15
      go_wp2_with fail
      refine (isSet_any _ _).mono ?_
      rintro e w1 ⟨rfl, hb1⟩
      rw [unhide HC]
      have HB1 := hide hb1
      have HN1 := hide ((hb1.block _ (lt_of_block (unhide HN))).trans (unhide HN))
      have HI1 := hide ((unhide HI).below hb1)
      have HV1 := hide ((unhide HV).below hb1)
      clear hb1
      go_wp2_with fail
      refine (all_any g _ _ (unhide HN1) ⟨_, _, _, rfl⟩).mono ?_
      rintro e w3 ⟨rfl, rfl⟩
      go_wp2_with fail
      refine (fits_any _ xs _ vals _ (unhide HI1) hlen (unhide HV1)).mono ?_
      rintro e w2 ⟨rfl, hb2⟩
      rw [unhide HX, unhide HF]
      have HB2 := hide (below_after (unhide HB1) hb2)
      have HN2 := hide ((hb2.block _ (lt_of_block (unhide HN1))).trans (unhide HN1))
      have HI2 := hide ((unhide HI1).below hb2)
      have HV2 := hide ((unhide HV1).below hb2)
      clear hb2
      go_wp2_with fail
      refine (all_any g _ _ (unhide HN2) ⟨_, _, _, rfl⟩).mono ?_
      rintro e w4 ⟨rfl, rfl⟩
      go_wp2_with fail
      refine (explWrite_any _ xs cl _ vals _ (unhide HI2) (by rw [unhide HX]; exact unhide HK) (unhide HWF) (unhide HV2) (by rw [unhide HX]; exact unhide HF) (by omega) (tab_below (unhide HB2) (unhide HT))).mono ?_
      rintro e w5 ⟨rfl, hb5⟩
      rw [unhide HX]
      have HB5 := hide (below_after (unhide HB2) hb5)
      clear hb5
      go_wp2_with fail
      go_ret2
      rw [unhide HE]
      exact ⟨rfl, unhide HB5⟩
end Go.Proofs.YtdgbmcbkbkbdoaaGreatDoor
