import Derived.Test.YtdgbmcbkbkbdoaaGreatDoorEvI
import Derived.Test.YtdgbmcbkbkbdoaaGreatDoorLbA
import Derived.Test.YtdgbmcbkbkbdoaaGreatDoorPlE
namespace Go.Proofs.YtdgbmcbkbkbdoaaGreatDoor
open Go.RowKit

theorem owns_kept {W0 : World} {b : Nat} {l : List UInt8} {w w' : World} {base : Nat} {e : TypeId} {size : Nat} {v : Value} {n : Nat} {xs : List Value} (hw : WInv W0 b l w) (g : Lib.OthersKept 5 (some b) w w') (he : e ≠ 5) (he2 : e ≠ 111) (h : w.ownsRow base e size v n xs) : w'.ownsRow base e size v n xs :=
  owns_keep h (fun gg c _ hg => by
    have hne : gg ≠ b := fun eq => by
      subst eq
      rcases hw.bd with ⟨_, v', hb, _⟩ | ⟨_, v', hb, _⟩
      · rw [hb] at hg; simp at hg; exact he2 hg.2.symm
      · rw [hb] at hg; simp at hg; exact he2 hg.2.symm
    rw [hg]
    exact g gg _ hg (fun e' => hne (by simpa using e')) (fun c' fz e' => by simp at e'; exact he e'.2.1))

set_option maxRecDepth 100000 in
set_option maxHeartbeats 800000 in
theorem valueText_any (p : PVal) (w : World) (h : -9999999 ≤ p.n) (h' : p.n ≤ 9999999) (ht : Tab w) :
    Calls Tryz.prog 92 #[.agg #[.int .i64 p.kind, .int .i64 p.n]] w fun e w' => e = .returned (.string ⟨(shownOut p).toArray⟩) ∧ Below w.heap.size w w' := by
  obtain ⟨k, n⟩ := p
  simp only at h h' ⊢
  have hb0 : Below w.heap.size w (w.alloc (.cells #[.int .i64 k, .int .i64 n] 51)) := (Below.refl _ w).alloc (Nat.le_refl _) _
  have HT := hide (tab_below hb0 ht)
  have HB0 := hide hb0
  clear ht hb0
  by_cases h1 : k = 1
  · subst h1
    go_enter Tryz.func92, Tryz.ntmps92
    go_wp2
    go_ret
    exact ⟨by simp [shownOut], unhide HB0⟩
  have g1 : (k == 1) = false := by simpa using h1
  by_cases h2 : k = 2
  · subst h2
    clear h1 g1
    go_enter Tryz.func92, Tryz.ntmps92
    go_wp2
    go_ret
    exact ⟨by simp [shownOut], unhide HB0⟩
  have g2 : (k == 2) = false := by simpa using h2
  have HS : Hid (shownOut ⟨k, n⟩ = Lib.itoa n) := hide (by simp [shownOut, h1, h2])
  clear h1 h2
  go_enter Tryz.func92, Tryz.ntmps92
  go_wp2_with fail
  refine (itoa_any _ _ h h' (unhide HT)).mono ?_
  rintro e wc ⟨rfl, hbc⟩
  have HB1 := hide (below_after (unhide HB0) hbc)
  clear hbc
  go_wp2
  go_ret
  refine ⟨?_, unhide HB1⟩
  rw [unhide HS]
  rfl

theorem rulesTold_snoc (b : Bool) : ∀ (l : List Nat) (i : Nat), rulesTold b (l ++ [i]) = rulesTold b l ++ (if b = false ∧ l = [] then [] else [32]) ++ Lib.itoa ((i : Int) + 1) := by
  intro l
  induction l generalizing b with
  | nil => intro i; cases b <;> simp [rulesTold]
  | cons x l ih =>
    intro i
    cases b
    · rw [List.cons_append, rulesTold, ih true i, rulesTold]; simp
    · rw [List.cons_append, rulesTold, ih true i, rulesTold]; simp
theorem rulesTold_len (b : Bool) (l : List Nat) (h : ∀ i ∈ l, i ≤ 1000) : (rulesTold b l).length ≤ l.length * 10 := by
  induction l generalizing b with
  | nil => simp [rulesTold]
  | cons x l ih =>
    have h1 := ih true (fun i hi => h i (by simp [hi]))
    have h2 := h x (by simp)
    have h3 := itoa_len (n := (x : Int) + 1) (by omega) (by omega)
    cases b <;> simp [rulesTold] <;> omega

set_option maxRecDepth 100000 in
set_option maxHeartbeats 1600000 in
theorem writeRules_any {W0 : World} {b : Nat} {l : List UInt8} {w : World} (v : Value) (ms : List Nat) (h : WInv W0 b l w) (hl : l.length ≤ 100000000) (ht : Tab W0) (hv : w.ownsRow W0.heap.size 3 1 v ms.length (nats ms)) (hml : ms.length ≤ 1000) (hms : ∀ i ∈ ms, i ≤ 1000) :
    Calls Tryz.prog 93 #[.pointer (some ⟨b, 0, none⟩), v] w fun e w' => e = .returned (.tuple #[]) ∧ WInv W0 b (l ++ [91] ++ rulesTold false ms ++ [93]) w' ∧ Lib.OthersKept 5 (some b) w w' := by
  obtain ⟨mo, mc, rfl⟩ := (SlAt.of_owns hv).form
  have HW := hide h
  have HV := hide hv
  have HT := hide ht
  have HMS := hide hms
  clear h hv ht hms
  go_enter Tryz.func93, Tryz.ntmps93
  go_wp2_with fail
  refine (wb_any _ (unhide HW) (by omega) (by simp) (by simp)).mono ?_
  rintro e w1 ⟨rfl, hw1, ho1⟩
  have HW1 := hide hw1
  have HO1 := hide ho1
  have HV1 := hide (owns_kept (unhide HW) ho1 (by decide) (by decide) (unhide HV))
  clear hw1 ho1
  go_wp2_with fail
  go_loopg [10] ms.length (fun g i wr => ∃ j : Nat, j ≤ ms.length ∧ g = ms.length - j ∧ i = .int .i64 (j : Int) ∧ WInv W0 b (l ++ [91] ++ rulesTold false (ms.take j)) wr ∧ Lib.OthersKept 5 (some b) w wr ∧ wr.ownsRow W0.heap.size 3 1 (.slice mo ms.length mc) ms.length (nats ms))
  case atStart => exact ⟨0, by omega, rfl, rfl, by simpa [rulesTold, u8] using unhide HW1, unhide HO1, unhide HV1⟩
  case round =>
    obtain ⟨j, hj, hg, rfl, hwi, hok, hown⟩ := hrel
    have A : Aside (gk = ms.length - j ∧ WInv W0 b (l ++ [91] ++ rulesTold false (ms.take j)) wr ∧ Lib.OthersKept 5 (some b) w wr ∧ wr.ownsRow W0.heap.size 3 1 (.slice mo ms.length mc) ms.length (nats ms)) := ⟨hg, hwi, hok, hown⟩
    have hrl := rulesTold_len false (ms.take j) (fun i hi => unhide HMS i (List.mem_of_mem_take hi))
    rw [List.length_take] at hrl
    clear hg
    by_cases hlt : j < ms.length
    · rcases SlAt.of_owns hown with ⟨h0, _⟩ | ⟨g, cap', hv, hc, hm, hgl, hx⟩
      · omega
      simp only [Value.slice.injEq] at hv
      obtain ⟨rfl, _, rfl⟩ := hv
      have k0 : wr.cell? ⟨g, j, none⟩ = some (.int .i64 (ms[j] : Int)) := by
        rw [hx j (by omega)]
        simp [nats, hlt]
      have hjc : (j : Int) < ms.length := by omega
      have hst : rulesTold false (ms.take (j + 1)) = rulesTold false (ms.take j) ++ (if j = 0 then [] else [32]) ++ Lib.itoa ((ms[j] : Int) + 1) := by
        rw [List.take_succ_eq_append_getElem hlt, rulesTold_snoc]
        congr 2
        by_cases hz : j = 0
        · subst hz; simp
        · have : ms.take j ≠ [] := fun e => by have h9 := congrArg List.length e; rw [List.length_take, List.length_nil] at h9; omega
          simp [hz, this]
      have hb := unhide HMS ms[j] (List.getElem_mem hlt)
      generalize ms[j] = p at *
      have HST := hide hst
      have hil := itoa_len (n := (p : Int) + 1) (by omega) (by omega)
      clear hx hc hm hgl hwi hok hown hst
      by_cases hz : j = 0
      · subst hz
        go_wp2_with fail
        refine (itoa_any _ _ (by omega) (by omega) (tab_below A.out.2.1.bl (unhide HT))).mono ?_
        rintro e w2 ⟨rfl, hb2⟩
        have HW2 := hide (A.out.2.1.below hb2)
        have HO2 := hide (A.out.2.2.1.trans (others_below hb2))
        have HV2 := hide (owns_below A.out.2.2.2 hb2)
        clear hb2
        go_wp2_with fail
        refine (ws_any _ (unhide HW2) (by simp [rulesTold]; omega) (by show (Lib.itoa ((p : Int) + 1)).toArray.size ≤ _; rw [List.size_toArray]; omega)).mono ?_
        rintro e w3 ⟨rfl, hw3, ho3⟩
        have HW3 := hide hw3
        have HO3 := hide ((unhide HO2).trans ho3)
        have HV3 := hide (owns_kept (unhide HW2) ho3 (by decide) (by decide) (unhide HV2))
        clear hw3 ho3
        go_wp2
        go_roundg (ms.length - (0 + 1))
        case measure => have := A.out.1; omega
        case rel =>
          refine ⟨0 + 1, by omega, rfl, by go_num, ?_, unhide HO3, unhide HV3⟩
          rw [unhide HST]
          have := unhide HW3
          simpa [rulesTold] using this
      · have hzb : (0 : Int) < (j : Int) := by omega
        have HZ := hide hz
        clear hz
        go_wp2_with fail
        refine (wb_any _ A.out.2.1 (by simp; omega) (by simp) (by simp)).mono ?_
        rintro e w1' ⟨rfl, hwx, hox⟩
        have HWx := hide hwx
        have HOx := hide (A.out.2.2.1.trans hox)
        have HVx := hide (owns_kept A.out.2.1 hox (by decide) (by decide) A.out.2.2.2)
        clear hwx hox
        go_wp2_with fail
        refine (itoa_any _ _ (by omega) (by omega) (tab_below (unhide HWx).bl (unhide HT))).mono ?_
        rintro e w2 ⟨rfl, hb2⟩
        have HW2 := hide ((unhide HWx).below hb2)
        have HO2 := hide ((unhide HOx).trans (others_below hb2))
        have HV2 := hide (owns_below (unhide HVx) hb2)
        clear hb2
        go_wp2_with fail
        refine (ws_any _ (unhide HW2) (by simp; omega) (by show (Lib.itoa ((p : Int) + 1)).toArray.size ≤ _; rw [List.size_toArray]; omega)).mono ?_
        rintro e w3 ⟨rfl, hw3, ho3⟩
        have HW3 := hide hw3
        have HO3 := hide ((unhide HO2).trans ho3)
        have HV3 := hide (owns_kept (unhide HW2) ho3 (by decide) (by decide) (unhide HV2))
        clear hw3 ho3
        go_wp2
        go_roundg (ms.length - (j + 1))
        case measure => have := A.out.1; omega
        case rel =>
          refine ⟨j + 1, by omega, rfl, by go_num, ?_, unhide HO3, unhide HV3⟩
          rw [unhide HST, if_neg (unhide HZ)]
          have := unhide HW3
          simpa [u8] using this
    · have hje : j = ms.length := by omega
      have HJ := hide hje
      have hjc : ¬ (j : Int) < ms.length := by omega
      clear hje hwi hok hown
      go_wp2_with fail
      refine (wb_any _ A.out.2.1 (by simp; omega) (by simp) (by simp)).mono ?_
      rintro e w1' ⟨rfl, hwx, hox⟩
      have HWx := hide hwx
      have HOx := hide (A.out.2.2.1.trans hox)
      clear hwx hox
      go_wp2
      go_end0
      refine ⟨rfl, ?_, unhide HOx⟩
      have := unhide HWx
      rw [unhide HJ, List.take_length] at this
      simpa [u8] using this
end Go.Proofs.YtdgbmcbkbkbdoaaGreatDoor
