import Derived.Test.YthnggjaecngbiaaGreatDoorFcA
import Derived.Test.YthnggjaecngbiaaGreatDoorEvF
import Derived.Test.YthnggjaecngbiaaGreatDoorLbA
import Derived.Test.YthnggjaecngbiaaGreatDoorEvJ
import Derived.Test.YthnggjaecngbiaaGreatDoorExC
import Derived.KernelRfl
namespace Go.Proofs.YthnggjaecngbiaaGreatDoor
open Go.RowKit

set_option maxHeartbeats 400000 in
theorem all_any (g : Nat) (v : Value) (w : World) (h : w.heap[g]? = some (.cells #[v] 98)) (hv : ∃ ao n cap, v = .slice ao n cap) :
    Calls Tryz.prog 44 #[.pointer (some ⟨g, 0, none⟩)] w fun e w' => e = .returned v ∧ w' = w := by
  obtain ⟨ao, n, cap, rfl⟩ := hv
  have c0 : w.cell? ⟨g, 0, none⟩ = some (.slice ao n cap) := by simp [World.cell?, h]
  have hl := lt_of_block h
  clear h
  go_enter Tryz.func44, Tryz.ntmps44
  go_wp2
  go_ret
  exact ⟨rfl, rfl⟩

/-- What Label answers. -/
def labelP (its : List PItem) (nm : ByteArray) : Int × Int := if namedP its nm then ((((labsP its).getD (placeP its nm).toNat 0 : Nat) : Int), 0) else (0, 4)

set_option maxRecDepth 100000 in
set_option maxHeartbeats 800000 in
theorem label_any (g : Nat) (its : List PItem) (nm : ByteArray) (w : World) (h : PlanAt w g its) :
    Calls Tryz.prog 18 #[.pointer (some ⟨g, 0, none⟩), .string nm] w fun e w' => e = .returned (.tuple #[.int .i64 (labelP its nm).1, .int .i64 (labelP its nm).2]) ∧ Below w.heap.size w w' := by
  obtain ⟨v, xs, hN, hit, hxs, hwf, hok⟩ := h
  obtain ⟨ao, cap, rfl⟩ := hit.1.form
  have hlen : xs.length ≤ 12 := by have := hok.len; rw [← hxs] at this; simpa using this
  have HN := hide hN
  have HI := hide hit
  have HX := hide hxs
  have HK := hide hok
  clear hN hit hxs hok hwf
  cases hn : namedP its nm with
  | false =>
    have HP := hide (placeP_out hn)
    have HL : Hid (labelP its nm = (0, 4)) := hide (by unfold labelP; rw [if_neg (by rw [hn]; simp)])
    clear hn
    go_enter Tryz.func18, Tryz.ntmps18
    go_wp2_with fail
    refine (all_any g _ _ (unhide HN) ⟨_, _, _, rfl⟩).mono ?_
    rintro e w1 ⟨rfl, rfl⟩
    go_wp2_with fail
    refine (place_any _ xs nm _ (unhide HI) (by omega)).mono ?_
    rintro e w2 ⟨rfl, hb2⟩
    rw [unhide HX, unhide HP]
    have HB2 := hide hb2
    clear hb2
    go_wp2_with fail
    go_ret2
    rw [unhide HL]
    exact ⟨rfl, unhide HB2⟩
  | true =>
    obtain ⟨i, hp, hi⟩ := placeP_in hn
    have HL : Hid (labelP its nm = ((((labsP its).getD i 0 : Nat) : Int), 0)) := hide (by unfold labelP; rw [if_pos hn, hp, Int.toNat_natCast])
    have HP := hide hp
    clear hn hp
    go_enter Tryz.func18, Tryz.ntmps18
    go_wp2_with fail
    refine (all_any g _ _ (unhide HN) ⟨_, _, _, rfl⟩).mono ?_
    rintro e w1 ⟨rfl, rfl⟩
    go_wp2_with fail
    refine (place_any _ xs nm _ (unhide HI) (by omega)).mono ?_
    rintro e w2 ⟨rfl, hb2⟩
    rw [unhide HX, unhide HP]
    have HB2 := hide hb2
    have HN2 := hide ((hb2.block _ (lt_of_block (unhide HN))).trans (unhide HN))
    have HI2 := hide ((unhide HI).below hb2)
    clear hb2
    go_wp2_with fail
    refine (all_any g _ _ (unhide HN2) ⟨_, _, _, rfl⟩).mono ?_
    rintro e w3 ⟨rfl, rfl⟩
    go_wp2_with fail
    refine (labels_any _ xs _ (unhide HI2) (by rw [unhide HX]; exact unhide HK)).mono ?_
    rintro e w4 ⟨lv, rfl, hb4, hlo⟩
    rw [unhide HX] at hlo
    have hll : (labsP its).length = its.length := by unfold labsP; rw [labsTo_len]
    rcases SlAt.of_owns hlo with ⟨h0, _⟩ | ⟨g3, cap3, hv3, hc3, hm3, hgl3, hx3⟩
    · omega
    subst hv3
    have k0 : w4.cell? ⟨g3, i, none⟩ = some (.int .i64 ((labsP its).getD i 0 : Int)) := by
      rw [hx3 i (by omega), getD_at _ _ (by omega)]
      simp [nats, hll, hi]
    have hic : (i : Int) < (labsP its).length := by omega
    have HB4 := hide (below_after (unhide HB2) hb4)
    generalize (labsP its).getD i 0 = y at *
    clear hx3 hc3 hm3 hb4 hlo hll
    go_wp2_with fail
    go_ret2
    rw [unhide HL]
    exact ⟨rfl, unhide HB4⟩

/-- What Eval leaves. -/
def EvalOf (its : List PItem) (vals : List Int) (w : World) (e : Ending) (w' : World) : Prop :=
  (fitsP its vals = false ∧ e = .returned (.tuple #[.slice none 0 0, .int .i64 7]) ∧ Below w.heap.size w w') ∨
  (fitsP its vals = true ∧ ∃ ao cap, e = .returned (.tuple #[.slice ao (tabsP its vals).length cap, .int .i64 0]) ∧ Below w.heap.size w w' ∧ w'.ownsRow w.heap.size 51 2 (.slice ao (tabsP its vals).length cap) (tabsP its vals).length ((tabsP its vals).flatMap vcells))

set_option maxRecDepth 100000 in
set_option maxHeartbeats 800000 in
theorem eval_any (g : Nat) (its : List PItem) (vl : Value) (vals : List Int) (w : World) (h : PlanAt w g its) (hvl : SlAt w 1 vl vals.length (ints vals)) :
    Calls Tryz.prog 20 #[.pointer (some ⟨g, 0, none⟩), vl] w (EvalOf its vals w) := by
  obtain ⟨v, xs, hN, hit, hxs, hwf, hok⟩ := h
  obtain ⟨ao, cap, rfl⟩ := hit.1.form
  obtain ⟨vo, vc, rfl⟩ := hvl.form
  have hlen : xs.length ≤ 12 := by have := hok.len; rw [← hxs] at this; simpa using this
  have HN := hide hN
  have HI := hide hit
  have HX := hide hxs
  have HK := hide hok
  have HWF := hide hwf
  have HV := hide hvl
  clear hN hit hxs hok hwf hvl
  cases hf : fitsP its vals with
  | false =>
    have HF := hide hf
    clear hf
    go_enter Tryz.func20, Tryz.ntmps20
    go_wp2_with fail
    refine (all_any g _ _ (unhide HN) ⟨_, _, _, rfl⟩).mono ?_
    rintro e w1 ⟨rfl, rfl⟩
    go_wp2_with fail
    refine (fits_any _ xs _ vals _ (unhide HI) hlen (unhide HV)).mono ?_
    rintro e w2 ⟨rfl, hb2⟩
    rw [unhide HX, unhide HF]
    have HB2 := hide hb2
    clear hb2
    go_wp2_with fail
    go_ret2
    exact Or.inl ⟨unhide HF, rfl, unhide HB2⟩
  | true =>
    have HF := hide hf
    clear hf
    go_enter Tryz.func20, Tryz.ntmps20
    go_wp2_with fail
    refine (all_any g _ _ (unhide HN) ⟨_, _, _, rfl⟩).mono ?_
    rintro e w1 ⟨rfl, rfl⟩
    go_wp2_with fail
    refine (fits_any _ xs _ vals _ (unhide HI) hlen (unhide HV)).mono ?_
    rintro e w2 ⟨rfl, hb2⟩
    rw [unhide HX, unhide HF]
    have HB2 := hide hb2
    have HN2 := hide ((hb2.block _ (lt_of_block (unhide HN))).trans (unhide HN))
    have HI2 := hide ((unhide HI).below hb2)
    have HV2 := hide ((unhide HV).below hb2)
    clear hb2
    go_wp2_with fail
    refine (all_any g _ _ (unhide HN2) ⟨_, _, _, rfl⟩).mono ?_
    rintro e w3 ⟨rfl, rfl⟩
    go_wp2_with fail
    refine (tables_any _ xs _ vals _ (unhide HI2) (by rw [unhide HX]; exact unhide HK) (unhide HWF) (unhide HV2) (by rw [unhide HX]; exact (fits_bd (unhide HF)).1)).mono ?_
    rintro e w4 ⟨tv, rfl, hb4, hto⟩
    rw [unhide HX] at hto
    obtain ⟨tq, tc, rfl⟩ := (SlAt.of_owns hto).form
    have HB4 := hide (below_after (unhide HB2) hb4)
    have HTO := hide (owns_base hto (unhide HB2).size)
    clear hb4 hto
    go_wp2_with fail
    go_ret2
    exact Or.inr ⟨unhide HF, tq, tc, rfl, unhide HB4, unhide HTO⟩

/-- What Explain answers. -/
def explR (its : List PItem) (clear : Int) (vals : List Int) : List UInt8 × Int :=
  if (0 ≤ clear ∧ clear ≤ 7) ∧ fitsP its vals = true then (explainP its clear.toNat vals, 0) else ([], 7)

set_option maxRecDepth 100000 in
set_option maxHeartbeats 800000 in
theorem explain_any (g : Nat) (its : List PItem) (clear : Int) (vl : Value) (vals : List Int) (w : World) (h : PlanAt w g its) (hvl : SlAt w 1 vl vals.length (ints vals)) (ht : Tab w) :
    Calls Tryz.prog 17 #[.pointer (some ⟨g, 0, none⟩), .int .i64 clear, vl] w fun e w' => e = .returned (.tuple #[.string ⟨(explR its clear vals).1.toArray⟩, .int .i64 (explR its clear vals).2]) ∧ Below w.heap.size w w' := by
  obtain ⟨v, xs, hN, hit, hxs, hwf, hok⟩ := h
  obtain ⟨ao, cap, rfl⟩ := hit.1.form
  obtain ⟨vo, vc, rfl⟩ := hvl.form
  have hlen : xs.length ≤ 12 := by have := hok.len; rw [← hxs] at this; simpa using this
  have HN := hide hN
  have HI := hide hit
  have HX := hide hxs
  have HK := hide hok
  have HWF := hide hwf
  have HV := hide hvl
  have HT := hide ht
  clear hN hit hxs hok hwf hvl ht
  cases hc : decide (0 ≤ clear ∧ clear ≤ 7) with
  | false =>
    have HC := hide hc
    have HE : Hid (explR its clear vals = ([], 7)) := hide (by unfold explR; rw [if_neg]; intro h9; simp at hc; omega)
    clear hc
    go_enter Tryz.func17, Tryz.ntmps17
    go_wp2_with fail
    refine (isSet_any _ _).mono ?_
    rintro e w1 ⟨rfl, hb1⟩
    rw [unhide HC]
    have HB1 := hide hb1
    clear hb1
    go_wp2_with fail
    go_ret2
    rw [unhide HE]
    exact ⟨rfl, unhide HB1⟩
  | true =>
    have HC := hide hc
    have hcc : 0 ≤ clear ∧ clear ≤ 7 := by simpa using hc
    clear hc
    cases hf : fitsP its vals with
    | false =>
      have HF := hide hf
      have HE : Hid (explR its clear vals = ([], 7)) := hide (by unfold explR; rw [if_neg]; intro h9; rw [hf] at h9; simp at h9)
      clear hf
      go_enter Tryz.func17, Tryz.ntmps17
      go_wp2_with fail
      refine (isSet_any _ _).mono ?_
      rintro e w1 ⟨rfl, hb1⟩
      rw [unhide HC]
      have HB1 := hide hb1
      have HN1 := hide ((hb1.block _ (lt_of_block (unhide HN))).trans (unhide HN))
      have HI1 := hide ((unhide HI).below hb1)
      have HV1 := hide ((unhide HV).below hb1)
      clear hb1
      go_wp2_with fail
      refine (all_any g _ _ (unhide HN1) ⟨_, _, _, rfl⟩).mono ?_
      rintro e w3 ⟨rfl, rfl⟩
      go_wp2_with fail
      refine (fits_any _ xs _ vals _ (unhide HI1) hlen (unhide HV1)).mono ?_
      rintro e w2 ⟨rfl, hb2⟩
      rw [unhide HX, unhide HF]
      have HB2 := hide (below_after (unhide HB1) hb2)
      clear hb2
      go_wp2_with fail
      go_ret2
      rw [unhide HE]
      exact ⟨rfl, unhide HB2⟩
    | true =>
      have HF := hide hf
      obtain ⟨cl, rfl⟩ : ∃ cl : Nat, clear = (cl : Int) := ⟨clear.toNat, by omega⟩
      have HE : Hid (explR its cl vals = (explainP its cl vals, 0)) := hide (by unfold explR; rw [if_pos ⟨hcc, hf⟩, Int.toNat_natCast])
      clear hf
      go_enter Tryz.func17, Tryz.ntmps17
      go_wp2_with fail
      refine (isSet_any _ _).mono ?_
      rintro e w1 ⟨rfl, hb1⟩
      rw [unhide HC]
      have HB1 := hide hb1
      have HN1 := hide ((hb1.block _ (lt_of_block (unhide HN))).trans (unhide HN))
      have HI1 := hide ((unhide HI).below hb1)
      have HV1 := hide ((unhide HV).below hb1)
      clear hb1
      go_wp2_with fail
      refine (all_any g _ _ (unhide HN1) ⟨_, _, _, rfl⟩).mono ?_
      rintro e w3 ⟨rfl, rfl⟩
      go_wp2_with fail
      refine (fits_any _ xs _ vals _ (unhide HI1) hlen (unhide HV1)).mono ?_
      rintro e w2 ⟨rfl, hb2⟩
      rw [unhide HX, unhide HF]
      have HB2 := hide (below_after (unhide HB1) hb2)
      have HN2 := hide ((hb2.block _ (lt_of_block (unhide HN1))).trans (unhide HN1))
      have HI2 := hide ((unhide HI1).below hb2)
      have HV2 := hide ((unhide HV1).below hb2)
      clear hb2
      go_wp2_with fail
      refine (all_any g _ _ (unhide HN2) ⟨_, _, _, rfl⟩).mono ?_
      rintro e w4 ⟨rfl, rfl⟩
      go_wp2_with fail
      refine (explWrite_any _ xs cl _ vals _ (unhide HI2) (by rw [unhide HX]; exact unhide HK) (unhide HWF) (unhide HV2) (by rw [unhide HX]; exact unhide HF) (by omega) (tab_below (unhide HB2) (unhide HT))).mono ?_
      rintro e w5 ⟨rfl, hb5⟩
      rw [unhide HX]
      have HB5 := hide (below_after (unhide HB2) hb5)
      clear hb5
      go_wp2_with fail
      go_ret2
      rw [unhide HE]
      exact ⟨rfl, unhide HB5⟩
end Go.Proofs.YthnggjaecngbiaaGreatDoor

namespace Go.Proofs.YthnggjaecngbiaaGreatDoor
open Go.RowKit

def exText : List UInt8 := [105, 110, 32, 97, 103, 101, 59, 32, 105, 110, 32, 105, 108, 108, 47, 97, 59, 32, 116, 97, 98, 108, 101, 32, 114, 105, 115, 107, 32, 85, 32, 40, 97, 103, 101, 44, 32, 105, 108, 108, 41, 32, 123, 32, 60, 49, 56, 44, 32, 95, 32, 61, 32, 49, 59, 32, 62, 49, 55, 44, 32, 48, 32, 61, 32, 50, 59, 32, 62, 49, 55, 44, 32, 33, 48, 32, 61, 32, 53, 59, 32, 125, 32, 116, 97, 98, 108, 101, 32, 102, 101, 101, 32, 70, 32, 40, 114, 105, 115, 107, 41, 32, 92, 97, 32, 123, 32, 62, 50, 32, 61, 32, 49, 48, 48, 59, 32, 110, 111, 110, 101, 32, 61, 32, 48, 59, 32, 95, 32, 61, 32, 53, 48, 59, 32, 125]
def exPlain : List UInt8 := [105, 110, 32, 97, 103, 101, 59, 10, 105, 110, 32, 105, 108, 108, 47, 97, 59, 10, 116, 97, 98, 108, 101, 32, 114, 105, 115, 107, 32, 85, 40, 97, 103, 101, 44, 105, 108, 108, 41, 123, 60, 49, 56, 44, 95, 61, 49, 59, 62, 49, 55, 44, 48, 61, 50, 59, 62, 49, 55, 44, 33, 48, 61, 53, 59, 125, 10, 116, 97, 98, 108, 101, 32, 102, 101, 101, 32, 70, 40, 114, 105, 115, 107, 41, 92, 97, 123, 62, 50, 61, 49, 48, 48, 59, 110, 111, 110, 101, 61, 48, 59, 95, 61, 53, 48, 59, 125, 10]
def bs (l : List UInt8) : ByteArray := ⟨l.toArray⟩
def exItems : List PItem := [⟨bs [97, 103, 101], false, 0, 0, [], 0, []⟩, ⟨bs [105, 108, 108], false, 1, 0, [], 0, []⟩, ⟨bs [114, 105, 115, 107], true, 0, 85, [bs [97, 103, 101], bs [105, 108, 108]], 0, [⟨[⟨0, 5, 18, 0⟩, ⟨0, 0, 0, 0⟩], 1⟩, ⟨[⟨0, 6, 17, 0⟩, ⟨0, 3, 0, 0⟩], 2⟩, ⟨[⟨0, 6, 17, 0⟩, ⟨1, 3, 0, 0⟩], 5⟩]⟩, ⟨bs [102, 101, 101], true, 0, 70, [bs [114, 105, 115, 107]], 1, [⟨[⟨0, 6, 2, 0⟩], 100⟩, ⟨[⟨0, 1, 0, 0⟩], 0⟩, ⟨[⟨0, 0, 0, 0⟩], 50⟩]⟩]

theorem ex_plan : plainR ⟨exText.toArray⟩ = (exPlain, 4, 0) := by kernel_rfl
theorem ex_items : planOf ⟨exText.toArray⟩ = .inr exItems := by kernel_rfl
theorem no_plan : ∃ l, plainR ⟨#[105, 110, 32, 116, 97, 98, 108, 101, 59]⟩ = (l, 3, 1) := ⟨[], by kernel_rfl⟩
theorem ex_fits : fitsP exItems [30, 1] = true := by kernel_rfl
theorem ex_tabs : tabsP exItems [30, 1] = [⟨0, 5⟩, ⟨0, 100⟩] := by kernel_rfl
def exTold : List UInt8 := [97, 103, 101, 32, 51, 48, 10, 105, 108, 108, 32, 63, 10, 114, 105, 115, 107, 32, 63, 10, 102, 101, 101, 32, 49, 48, 48, 10]
theorem ex_told : explR exItems 0 [30, 1] = (exTold, 0) := by kernel_rfl
theorem ex_label : labelP exItems ⟨#[114, 105, 115, 107]⟩ = (1, 0) := by kernel_rfl

set_option maxRecDepth 100000 in
set_option maxHeartbeats 1600000 in
theorem example_any (w : World) :
    Calls Tryz.prog 36 #[] w fun e w' => e = .returned (.string ⟨exText.toArray⟩) ∧ w' = w := by
  go_enter Tryz.func36, Tryz.ntmps36
  go_wp2
  go_ret
  exact ⟨rfl, rfl⟩

set_option maxRecDepth 100000 in
set_option maxHeartbeats 1600000 in
theorem plainly_any (w : World) (ht : Tab w) :
    Calls Tryz.prog 35 #[] w fun e w' => e = .returned (.bool true) ∧ Below w.heap.size w w' := by
  have HT := hide ht
  clear ht
  go_enter Tryz.func35, Tryz.ntmps35
  go_wp2_with (go_at_call 36; refine (example_any _).mono ?_; rintro e _ ⟨rfl, rfl⟩)
  refine (plain_any _ _ (by decide) (unhide HT)).mono ?_
  rintro e w1 ⟨rfl, hb1⟩
  rw [ex_plan]
  have HB1 := hide hb1
  have HT1 := hide (tab_below hb1 (unhide HT))
  clear hb1
  simp only
  go_wp2_with fail
  obtain ⟨l0, hl0⟩ := no_plan
  refine (plain_any ⟨#[105, 110, 32, 116, 97, 98, 108, 101, 59]⟩ _ (by decide) (unhide HT1)).mono ?_
  rintro e w2 ⟨rfl, hb2⟩
  rw [hl0]
  have HB2 := hide (below_after (unhide HB1) hb2)
  clear hb2 hl0 HT1 HB1
  simp only
  go_wp2_with fail
  all_goals first
    | (exfalso; rename_i h; exact h rfl; done)
    | (go_ret; exact ⟨rfl, unhide HB2⟩)

set_option maxRecDepth 100000 in
set_option maxHeartbeats 1600000 in
theorem begun_any (w : World) (ht : Tab w) :
    Calls Tryz.prog 12 #[] w fun e w' => e = .returned (.bool true) ∧ Below w.heap.size w w' := by
  have HT := hide ht
  clear ht
  go_enter Tryz.func12, Tryz.ntmps12
  go_wp2_with fail
  refine (plainly_any _ (unhide HT)).mono ?_
  rintro e w1 ⟨rfl, hb1⟩
  have HB1 := hide hb1
  have HT1 := hide (tab_below hb1 (unhide HT))
  clear hb1
  go_wp2_with (go_at_call 36; refine (example_any _).mono ?_; rintro e _ ⟨rfl, rfl⟩)
  refine (new_any _ _ (by decide)).mono ?_
  rintro e w2 (⟨n, ce, hp, _⟩ | ⟨its, g, hp, rfl, hb2, hg, hpl⟩)
  · rw [ex_items] at hp; cases hp
  rw [ex_items] at hp
  simp only [Sum.inr.injEq] at hp
  subst hp
  have HB2 := hide (below_after (unhide HB1) hb2)
  have HT2 := hide (tab_below hb2 (unhide HT1))
  have HP := hide hpl
  clear hb2 hpl
  go_wp2_with fail
  have hba : Below w2.heap.size w2 (w2.alloc (.cells #[.int .i64 30, .int .i64 1] 3)) := (Below.refl _ w2).alloc (Nat.le_refl _) _
  refine (eval_any g exItems _ [30, 1] _ ((unhide HP).below hba) (sl_of_arr (l := [.int .i64 30, .int .i64 1]) (alloc_last w2 _) (by decide) (by decide))).mono ?_
  rintro e w3 (⟨hf, _⟩ | ⟨hf, ao, cap, rfl, hb3, hto⟩)
  · rw [ex_fits] at hf; cases hf
  rw [ex_tabs] at hto ⊢
  have HB3 := hide (below_after (below_after (unhide HB2) hba) hb3)
  have HT3 := hide (tab_below hb3 (tab_below hba (unhide HT2)))
  have HP3 := hide (((unhide HP).below hba).below hb3)
  have HO3 := hide hto
  clear hf hb3 hto hba
  simp only [List.length_cons, List.length_nil] at HO3 ⊢
  go_wp2_with fail
  have hba : Below w3.heap.size w3 (w3.alloc (.cells #[.int .i64 30, .int .i64 1] 3)) := (Below.refl _ w3).alloc (Nat.le_refl _) _
  refine (explain_any g exItems 0 _ [30, 1] _ ((unhide HP3).below hba) (sl_of_arr (l := [.int .i64 30, .int .i64 1]) (alloc_last w3 _) (by decide) (by decide)) (tab_below hba (unhide HT3))).mono ?_
  rintro e w4 ⟨rfl, hb4⟩
  rw [ex_told]
  have HB4 := hide (below_after (below_after (unhide HB3) hba) hb4)
  have HP4 := hide (((unhide HP3).below hba).below hb4)
  have HO4 := hide (owns_below (owns_below (unhide HO3) hba) hb4)
  clear hb4 hba
  simp only
  go_wp2_with fail
  refine (label_any g exItems _ _ (unhide HP4)).mono ?_
  rintro e w5 ⟨rfl, hb5⟩
  rw [ex_label]
  have HB5 := hide (below_after (unhide HB4) hb5)
  have hO5 := owns_below (unhide HO4) hb5
  rcases SlAt.of_owns hO5 with ⟨h0, _⟩ | ⟨g3, cap3, hv3, hc3, hm3, hgl3, hx3⟩
  · simp at h0
  simp only [Value.slice.injEq] at hv3
  obtain ⟨rfl, _, rfl⟩ := hv3
  have k0 := hx3 0 (by decide)
  have k1 := hx3 1 (by decide)
  have k2 := hx3 2 (by decide)
  have k3 := hx3 3 (by decide)
  simp only [List.flatMap_cons, List.flatMap_nil, vcells, List.cons_append, List.nil_append, List.getElem?_cons_zero, List.getElem?_cons_succ] at k0 k1 k2 k3
  clear hb5 hO5 hx3 hc3 hm3
  simp only
  go_wp2_with fail
  go_ret
  exact ⟨ret_bool (by decide), unhide HB5⟩

def pickP (c : Int) (n : Nat) : Nat := (if c < 0 then -(c + 1) else c).toNat % n
set_option maxHeartbeats 400000 in
theorem pick_any (c : Int) (n : Nat) (w : World) (hn : 0 < n) (hn2 : n ≤ 100000000) (h1 : -9223372036854775808 ≤ c) (h2 : c ≤ 9223372036854775807) :
    Calls Tryz.prog 16 #[.int .i64 c, .int .i64 (n : Int)] w fun e w' => e = .returned (.int .i64 (pickP c n : Int)) ∧ w' = w := by
  have hz : ((n : Int) == 0) = false := by simp; omega
  by_cases hc : c < 0
  · have HP : Hid (((pickP c n : Nat) : Int) = (-(c + 1)) % (n : Int)) := hide (by
      unfold pickP
      rw [if_pos hc]
      have : ((-(c + 1)).toNat : Int) = -(c + 1) := Int.toNat_of_nonneg (by omega)
      rw [Int.natCast_emod, this])
    have hpos : 0 ≤ -(c + 1) := by omega
    go_enter Tryz.func16, Tryz.ntmps16
    go_wp2
    go_ret
    refine ⟨?_, rfl⟩
    rw [unhide HP, ← Int.tmod_eq_emod_of_nonneg hpos, Int.neg_tmod]
    rfl
  · have HP : Hid (((pickP c n : Nat) : Int) = c % (n : Int)) := hide (by
      unfold pickP
      rw [if_neg hc]
      have : (c.toNat : Int) = c := Int.toNat_of_nonneg (by omega)
      rw [Int.natCast_emod, this])
    have hpos : 0 ≤ c := by omega
    go_enter Tryz.func16, Tryz.ntmps16
    go_wp2
    go_ret
    refine ⟨?_, rfl⟩
    rw [unhide HP]
    rfl
end Go.Proofs.YthnggjaecngbiaaGreatDoor

namespace Go.Proofs.YthnggjaecngbiaaGreatDoor
open Go.RowKit

/-- Lines of a text up to place i, and where the next one begins. -/
def linesTo (s : ByteArray) : Nat → List ByteArray × Nat
  | 0 => ([], 0)
  | i + 1 => if byteAt s i = 10 then ((linesTo s i).1 ++ [s.extract (linesTo s i).2 i], i + 1) else linesTo s i
def linesP (s : ByteArray) : List ByteArray := (linesTo s s.size).1
theorem linesTo_bd (s : ByteArray) : ∀ i, (linesTo s i).2 ≤ i ∧ (linesTo s i).1.length ≤ i
  | 0 => by simp [linesTo]
  | i + 1 => by
    have := linesTo_bd s i
    rw [linesTo]
    split
    · simp; omega
    · omega

set_option maxRecDepth 100000 in
set_option maxHeartbeats 1600000 in
theorem lines_any (s : ByteArray) (w : World) (hs : s.size ≤ 100000000000) :
    Calls Tryz.prog 21 #[.string s] w fun e w' => ∃ v, e = .returned v ∧ Below w.heap.size w w' ∧ w'.ownsRow w.heap.size 9 1 v (linesP s).length ((linesP s).map Value.string) := by
  obtain ⟨i0, hi, hz0, hz1, hz2⟩ := info_parts Tryz.info_string
  go_enter Tryz.func21, Tryz.ntmps21
  go_wp2_with fail
  go_loopg [3, 4, 5] s.size (fun g ov fv iv wr => ∃ j : Nat, j ≤ s.size ∧ g = s.size - j ∧ iv = .int .i64 (j : Int) ∧ fv = .int .i64 ((linesTo s j).2 : Int) ∧ Below w.heap.size w wr ∧ wr.ownsRow w.heap.size 9 1 ov (linesTo s j).1.length ((linesTo s j).1.map Value.string))
  case atStart => exact ⟨0, by omega, rfl, rfl, rfl, Below.refl _ _, World.ownsRow_nil _ _ _ _⟩
  case round =>
    obtain ⟨j, hj, hg, rfl, rfl, hb, hown⟩ := hrel
    have A : Aside (gk = s.size - j ∧ Below w.heap.size w wr ∧ wr.ownsRow w.heap.size 9 1 u3 (linesTo s j).1.length ((linesTo s j).1.map Value.string)) := ⟨hg, hb, hown⟩
    have hbd := linesTo_bd s j
    have hsz := hb.size
    clear hg hb hown
    by_cases hlt : j < s.size
    · have hjc : (j : Int) < s.size := by omega
      have hba := byteAt_in hlt
      by_cases h10 : byteAt s j = 10
      · have HST : Hid (linesTo s (j + 1) = ((linesTo s j).1 ++ [s.extract (linesTo s j).2 j], j + 1)) := hide (by rw [linesTo, if_pos h10])
        have h10b : ((s[j].toNat : Int) == 10) = true := by rw [← hba, h10]; rfl
        have hfr : ((linesTo s j).2 : Int) ≤ (j : Int) := by omega
        have hjs : (j : Int) ≤ s.size := by omega
        generalize (linesTo s j).2 = fr at *
        generalize (linesTo s j).1 = out at *
        clear h10 hba
        go_wp2_with (at_builtin; refine wpList_append_lies _ (by rfl) _ _ _ (by rfl) w.heap.size 9 i0 _ 1 16 Tryz.underlying53 hi hz0 hz1 hz2 rfl (by decide) u3 out.length (out.map Value.string) (by rfl) (A.out.2.2.alloc _) ⟨wr.heap.size, 0, none⟩ 1 1 [.string (s.extract fr j)] (by rfl) (by rfl) (World.news_of_block (cs := #[.string (s.extract fr j)]) (t := 9) (fr := (0, 0)) (heap_alloc_new wr _)) (by simp [Value.oneCell']) (by decide) (by unfold maxLen; omega) (by omega) (by simp; omega) (wr.heap.size + 1) (by simp) ?_; intro gg cap w7 hown7 hgrow7 hat7 hlt7; have AB := hide (And.intro (below_grown (A.out.2.1.alloc hsz _) hgrow7 (fun q hq => (A.out.2.2.lt q hq).1)) hown7); clear hown7 hgrow7 hat7 hlt7)
        go_roundg (s.size - (j + 1))
        case measure => have := A.out.1; omega
        case rel =>
          refine ⟨j + 1, by omega, rfl, by go_num, by rw [unhide HST]; go_num, (unhide AB).1, ?_⟩
          rw [unhide HST]
          simpa using (unhide AB).2
      · have HST : Hid (linesTo s (j + 1) = linesTo s j) := hide (by rw [linesTo, if_neg h10])
        have h10b : ((s[j].toNat : Int) == 10) = false := by rw [← hba]; simpa using h10
        clear h10 hba
        go_wp2_with fail
        go_roundg (s.size - (j + 1))
        case measure => have := A.out.1; omega
        case rel => exact ⟨j + 1, by omega, rfl, by go_num, by rw [unhide HST], A.out.2.1, by rw [unhide HST]; exact A.out.2.2⟩
    · have hje : j = s.size := by omega
      have hjc : ¬ (j : Int) < s.size := by omega
      have HO : Hid (wr.ownsRow w.heap.size 9 1 u3 (linesP s).length ((linesP s).map Value.string)) := hide (by
        have := A.out.2.2
        rw [hje] at this
        exact this)
      clear hje
      go_wp2
      go_ret
      have ho := unhide HO
      exact ⟨_, rfl, A.out.2.1, ho⟩
end Go.Proofs.YthnggjaecngbiaaGreatDoor

