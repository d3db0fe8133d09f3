import Derived.Test.YthnggjaecngbiaaGreatDoorEvI
import Derived.Test.YthnggjaecngbiaaGreatDoorLbA
import Derived.Test.YthnggjaecngbiaaGreatDoorPlE
namespace Go.Proofs.YthnggjaecngbiaaGreatDoor
open Go.RowKit

theorem tabsTo_len (its : List PItem) (rs : List (PVal × List Nat)) : ∀ j, (tabsTo its rs j).length ≤ j
  | 0 => by simp [tabsTo]
  | j + 1 => by
    have := tabsTo_len its rs j
    rw [tabsTo, List.length_append]
    split <;> simp <;> omega

set_option maxRecDepth 100000 in
set_option maxHeartbeats 3200000 in
theorem tables_any (v : Value) (xs : List LItem) (vl : Value) (vals : List Int) (w : World) (hit : ItemsV w v xs) (ok : OkPlan (xs.map LItem.it)) (hwf : ∀ x ∈ xs, WfI x.it) (hvl : SlAt w 1 vl vals.length (ints vals)) (hin : vals.length = inputsP (xs.map LItem.it)) :
    Calls Tryz.prog 48 #[v, vl] w fun e w' => ∃ tv, e = .returned tv ∧ Below w.heap.size w w' ∧ w'.ownsRow w.heap.size 51 2 tv (tabsP (xs.map LItem.it) vals).length ((tabsP (xs.map LItem.it) vals).flatMap vcells) := by
  obtain ⟨io, ic, rfl⟩ := hit.1.form
  obtain ⟨vo, vc, rfl⟩ := hvl.form
  have hlen : xs.length ≤ 12 := by have := ok.len; simpa using this
  have HI := hide hit
  have HK := hide ok
  have HW := hide hwf
  have HV := hide hvl
  have HN := hide hin
  clear hit ok hwf hvl hin
  obtain ⟨i0, hi, hz0, hz1, hz2⟩ := info_parts Tryz.info_value
  go_enter Tryz.func48, Tryz.ntmps48
  go_wp2_with fail
  refine (evitems_any _ xs _ vals _ (unhide HI) (unhide HK) (unhide HW) (unhide HV) (unhide HN)).mono ?_
  rintro e w1 ⟨rv, rs, rfl, hb1, hres, hsl⟩
  replace hsl := SlAt.of_owns hsl
  obtain ⟨so, sc, rfl⟩ := hsl.form
  have HB1 := hide hb1
  have HRES := hide hres
  have HSL := hide hsl
  have hrl : rs.length = xs.length := by rw [hres.1]; unfold resP; rw [resTo_len]; simp
  clear hb1 hres hsl
  go_wp2_with fail
  obtain ⟨its, hits⟩ : ∃ its, its = xs.map LItem.it := ⟨_, rfl⟩
  have HITS := hide hits
  go_loopg [5, 12] xs.length (fun g tv i wr => ∃ j : Nat, j ≤ xs.length ∧ g = xs.length - j ∧ i = .int .i64 (j : Int) ∧ Below w1.heap.size w1 wr ∧ wr.ownsRow w1.heap.size 51 2 tv (tabsTo its (resP its vals) j).length ((tabsTo its (resP its vals) j).flatMap vcells))
  case atStart => exact ⟨0, by omega, rfl, rfl, Below.refl _ _, World.ownsRow_nil _ _ _ _⟩
  case round =>
    obtain ⟨j, hj, hg, rfl, hb, hown⟩ := hrel
    have A : Aside (gk = xs.length - j ∧ Below w1.heap.size w1 wr ∧ wr.ownsRow w1.heap.size 51 2 u5 (tabsTo its (resP its vals) j).length ((tabsTo its (resP its vals) j).flatMap vcells)) := ⟨hg, hb, hown⟩
    have htl := tabsTo_len its (resP its vals) j
    clear hg hown
    by_cases hlt : j < xs.length
    · rcases (unhide HI).1.below (unhide HB1) with ⟨h0, _⟩ | ⟨g, cap', hv, hc, hm, hgl, hx⟩
      · omega
      simp only [Value.slice.injEq] at hv
      obtain ⟨rfl, _, rfl⟩ := hv
      have k1 : wr.cell? ⟨g, j * 7 + 1, none⟩ = some (.bool xs[j].it.isT) := by
        rw [hb.cell (p := ⟨g, j * 7 + 1, none⟩) hgl, hx _ (by omega)]
        exact flat_at itCells 7 (fun _ => rfl) xs j 1 hlt (by omega)
      have hjr : j < rs.length := by omega
      rcases (unhide HSL) with ⟨h0, _⟩ | ⟨g2, cap2, hv2, hc2, hm2, hgl2, hx2⟩
      · omega
      simp only [Value.slice.injEq] at hv2
      obtain ⟨rfl, _, rfl⟩ := hv2
      have key : ∀ i, i < 3 → wr.cell? ⟨g2, j * 3 + i, none⟩ = (rc3 rs[j])[i]? := fun i hi => by
        rw [hb.cell (p := ⟨g2, j * 3 + i, none⟩) hgl2, hx2 _ (by omega)]
        exact flat_at rc3 3 (fun _ => rfl) rs j i hjr hi
      have l0 := key 0 (by omega)
      have l1 := key 1 (by omega)
      have l2 := key 2 (by omega)
      simp only [rc3, List.getElem?_cons_zero, List.getElem?_cons_succ, Nat.add_zero] at l0 l1 l2
      have hpr : j < (resP (xs.map LItem.it) vals).length := by rw [← (unhide HRES).1]; exact hjr
      have hget := (unhide HRES).get hjr hpr
      obtain ⟨mo, mc, hmv⟩ := (SlAt.of_owns hget.2).form
      have hts : tabsTo its (resP its vals) (j + 1) = tabsTo its (resP its vals) j ++ (if xs[j].it.isT then [rs[j].1] else []) := by
        rw [tabsTo, hits, getD_at _ _ (by simpa using hlt), getD_at _ _ hpr, hget.1]
        simp
      rw [hmv] at l2
      generalize xs[j] = x at *
      generalize rs[j] = y at *
      generalize (resP (xs.map LItem.it) vals)[j].2.length = ml at *
      obtain ⟨⟨nm, bT, mk, po, cs, dr, rl⟩, cv, rv0, zv⟩ := x
      obtain ⟨⟨y0, y1⟩, yv⟩ := y
      simp only at k1 l0 l1 l2 hts
      have hjc : (j : Int) < xs.length := by omega
      have hjd : (j : Int) < rs.length := by omega
      have HTS := hide hts
      have k1' : (wr.alloc (.cells #[.int .i64 y0, .int .i64 y1, .slice mo ml mc] 128)).cell? ⟨g, j * 7 + 1, none⟩ = some (.bool bT) := by
        rw [← k1]
        exact ((Below.refl _ wr).alloc (Nat.le_refl _) _).cell (p := ⟨g, j * 7 + 1, none⟩) (Nat.lt_of_lt_of_le hgl hb.size)
      have HOW := hide (owns_below A.out.2.2 ((Below.refl _ wr).alloc (Nat.le_refl _) (.cells #[.int .i64 y0, .int .i64 y1, .slice mo ml mc] 128)))
      have HBW := hide (hb.alloc hb.size (.cells #[.int .i64 y0, .int .i64 y1, .slice mo ml mc] 128))
      have hsz : w1.heap.size ≤ wr.heap.size := hb.size
      clear key hx hx2 hc hm hc2 hm2 hgl hgl2 hb hts hget hmv hits k1
      cases bT with
      | true =>
        go_wp2_with (at_builtin; refine wpList_append_lies _ (by rfl) _ _ _ (by rfl) w1.heap.size 51 i0 _ 2 16 Tryz.underlying47 hi hz0 hz1 hz2 rfl (by decide) u5 (tabsTo its (resP its vals) j).length ((tabsTo its (resP its vals) j).flatMap vcells) (by rfl) ((unhide HOW).alloc _) ⟨wr.heap.size + 1, 0, none⟩ 1 1 [.int .i64 y0, .int .i64 y1] (by rfl) (by rfl) (World.news_of_block (cs := #[.int .i64 y0, .int .i64 y1]) (t := 51) (fr := (0, 0)) (by have := heap_alloc_new (wr.alloc (.cells #[.int .i64 y0, .int .i64 y1, .slice mo ml mc] 128)) (.cells #[.int .i64 y0, .int .i64 y1] 51); simpa using this)) (by simp [Value.oneCell']) (by decide) (by unfold maxLen; omega) (by omega) (by simp; omega) (wr.heap.size + 2) (by simp) ?_; intro gg cap w7 hown7 hgrow7 hat7 hlt7; have AB := hide (And.intro (below_grown ((unhide HBW).alloc (unhide HBW).size _) hgrow7 (fun q hq => ((unhide HOW).lt q hq).1)) hown7); clear hown7 hgrow7 hat7 hlt7)
        go_roundg (xs.length - (j + 1))
        case measure => have := A.out.1; omega
        case rel =>
          refine ⟨j + 1, by omega, rfl, by go_num, (unhide AB).1, ?_⟩
          rw [unhide HTS]
          simp only [if_true, List.length_append, List.length_singleton, List.flatMap_append]
          exact (unhide AB).2
      | false =>
        go_wp2_with fail
        go_roundg (xs.length - (j + 1))
        case measure => have := A.out.1; omega
        case rel =>
          refine ⟨j + 1, by omega, rfl, by go_num, unhide HBW, ?_⟩
          rw [unhide HTS]
          simpa using unhide HOW
    · have hje : j = xs.length := by omega
      have hjc : ¬ (j : Int) < xs.length := by omega
      have hjd : ¬ (j : Int) < rs.length := by omega
      have HO : Hid (wr.ownsRow w.heap.size 51 2 u5 (tabsP (xs.map LItem.it) vals).length ((tabsP (xs.map LItem.it) vals).flatMap vcells)) := hide (by
        have := owns_base A.out.2.2 (unhide HB1).size
        rw [hje, hits] at this
        unfold tabsP
        simpa using this)
      have HB2 := hide (below_after (unhide HB1) hb)
      clear hje hb hits
      go_wp2
      go_ret
      have ho := unhide HO
      exact ⟨_, rfl, unhide HB2, ho⟩

end Go.Proofs.YthnggjaecngbiaaGreatDoor

namespace Go.Proofs.YthnggjaecngbiaaGreatDoor
open Go.RowKit

theorem owns_kept {W0 : World} {b : Nat} {l : List UInt8} {w w' : World} {base : Nat} {e : TypeId} {size : Nat} {v : Value} {n : Nat} {xs : List Value} (hw : WInv W0 b l w) (g : Lib.OthersKept 5 (some b) w w') (he : e ≠ 5) (he2 : e ≠ 116) (h : w.ownsRow base e size v n xs) : w'.ownsRow base e size v n xs :=
  owns_keep h (fun gg c _ hg => by
    have hne : gg ≠ b := fun eq => by
      subst eq
      rcases hw.bd with ⟨_, v', hb, _⟩ | ⟨_, v', hb, _⟩
      · rw [hb] at hg; simp at hg; exact he2 hg.2.symm
      · rw [hb] at hg; simp at hg; exact he2 hg.2.symm
    rw [hg]
    exact g gg _ hg (fun e' => hne (by simpa using e')) (fun c' fz e' => by simp at e'; exact he e'.2.1))

set_option maxRecDepth 100000 in
set_option maxHeartbeats 800000 in
theorem valueText_any (p : PVal) (w : World) (h : -9999999 ≤ p.n) (h' : p.n ≤ 9999999) (ht : Tab w) :
    Calls Tryz.prog 101 #[.agg #[.int .i64 p.kind, .int .i64 p.n]] w fun e w' => e = .returned (.string ⟨(shownOut p).toArray⟩) ∧ Below w.heap.size w w' := by
  obtain ⟨k, n⟩ := p
  simp only at h h' ⊢
  have hb0 : Below w.heap.size w (w.alloc (.cells #[.int .i64 k, .int .i64 n] 51)) := (Below.refl _ w).alloc (Nat.le_refl _) _
  have HT := hide (tab_below hb0 ht)
  have HB0 := hide hb0
  clear ht hb0
  by_cases h1 : k = 1
  · subst h1
    go_enter Tryz.func101, Tryz.ntmps101
    go_wp2
    go_ret
    exact ⟨by simp [shownOut], unhide HB0⟩
  have g1 : (k == 1) = false := by simpa using h1
  by_cases h2 : k = 2
  · subst h2
    clear h1 g1
    go_enter Tryz.func101, Tryz.ntmps101
    go_wp2
    go_ret
    exact ⟨by simp [shownOut], unhide HB0⟩
  have g2 : (k == 2) = false := by simpa using h2
  have HS : Hid (shownOut ⟨k, n⟩ = Lib.itoa n) := hide (by simp [shownOut, h1, h2])
  clear h1 h2
  go_enter Tryz.func101, Tryz.ntmps101
  go_wp2_with fail
  refine (itoa_any _ _ h h' (unhide HT)).mono ?_
  rintro e wc ⟨rfl, hbc⟩
  have HB1 := hide (below_after (unhide HB0) hbc)
  clear hbc
  go_wp2
  go_ret
  refine ⟨?_, unhide HB1⟩
  rw [unhide HS]
  rfl

theorem rulesTold_snoc (b : Bool) : ∀ (l : List Nat) (i : Nat), rulesTold b (l ++ [i]) = rulesTold b l ++ (if b = false ∧ l = [] then [] else [32]) ++ Lib.itoa ((i : Int) + 1) := by
  intro l
  induction l generalizing b with
  | nil => intro i; cases b <;> simp [rulesTold]
  | cons x l ih =>
    intro i
    cases b
    · rw [List.cons_append, rulesTold, ih true i, rulesTold]; simp
    · rw [List.cons_append, rulesTold, ih true i, rulesTold]; simp
theorem rulesTold_len (b : Bool) (l : List Nat) (h : ∀ i ∈ l, i ≤ 1000) : (rulesTold b l).length ≤ l.length * 10 := by
  induction l generalizing b with
  | nil => simp [rulesTold]
  | cons x l ih =>
    have h1 := ih true (fun i hi => h i (by simp [hi]))
    have h2 := h x (by simp)
    have h3 := itoa_len (n := (x : Int) + 1) (by omega) (by omega)
    cases b <;> simp [rulesTold] <;> omega

set_option maxRecDepth 100000 in
set_option maxHeartbeats 1600000 in
theorem writeRules_any {W0 : World} {b : Nat} {l : List UInt8} {w : World} (v : Value) (ms : List Nat) (h : WInv W0 b l w) (hl : l.length ≤ 100000000) (ht : Tab W0) (hv : w.ownsRow W0.heap.size 3 1 v ms.length (nats ms)) (hml : ms.length ≤ 1000) (hms : ∀ i ∈ ms, i ≤ 1000) :
    Calls Tryz.prog 102 #[.pointer (some ⟨b, 0, none⟩), v] w fun e w' => e = .returned (.tuple #[]) ∧ WInv W0 b (l ++ [91] ++ rulesTold false ms ++ [93]) w' ∧ Lib.OthersKept 5 (some b) w w' := by
  obtain ⟨mo, mc, rfl⟩ := (SlAt.of_owns hv).form
  have HW := hide h
  have HV := hide hv
  have HT := hide ht
  have HMS := hide hms
  clear h hv ht hms
  go_enter Tryz.func102, Tryz.ntmps102
  go_wp2_with fail
  refine (wb_any _ (unhide HW) (by omega) (by simp) (by simp)).mono ?_
  rintro e w1 ⟨rfl, hw1, ho1⟩
  have HW1 := hide hw1
  have HO1 := hide ho1
  have HV1 := hide (owns_kept (unhide HW) ho1 (by decide) (by decide) (unhide HV))
  clear hw1 ho1
  go_wp2_with fail
  go_loopg [10] ms.length (fun g i wr => ∃ j : Nat, j ≤ ms.length ∧ g = ms.length - j ∧ i = .int .i64 (j : Int) ∧ WInv W0 b (l ++ [91] ++ rulesTold false (ms.take j)) wr ∧ Lib.OthersKept 5 (some b) w wr ∧ wr.ownsRow W0.heap.size 3 1 (.slice mo ms.length mc) ms.length (nats ms))
  case atStart => exact ⟨0, by omega, rfl, rfl, by simpa [rulesTold, u8] using unhide HW1, unhide HO1, unhide HV1⟩
  case round =>
    obtain ⟨j, hj, hg, rfl, hwi, hok, hown⟩ := hrel
    have A : Aside (gk = ms.length - j ∧ WInv W0 b (l ++ [91] ++ rulesTold false (ms.take j)) wr ∧ Lib.OthersKept 5 (some b) w wr ∧ wr.ownsRow W0.heap.size 3 1 (.slice mo ms.length mc) ms.length (nats ms)) := ⟨hg, hwi, hok, hown⟩
    have hrl := rulesTold_len false (ms.take j) (fun i hi => unhide HMS i (List.mem_of_mem_take hi))
    rw [List.length_take] at hrl
    clear hg
    by_cases hlt : j < ms.length
    · rcases SlAt.of_owns hown with ⟨h0, _⟩ | ⟨g, cap', hv, hc, hm, hgl, hx⟩
      · omega
      simp only [Value.slice.injEq] at hv
      obtain ⟨rfl, _, rfl⟩ := hv
      have k0 : wr.cell? ⟨g, j, none⟩ = some (.int .i64 (ms[j] : Int)) := by
        rw [hx j (by omega)]
        simp [nats, hlt]
      have hjc : (j : Int) < ms.length := by omega
      have hst : rulesTold false (ms.take (j + 1)) = rulesTold false (ms.take j) ++ (if j = 0 then [] else [32]) ++ Lib.itoa ((ms[j] : Int) + 1) := by
        rw [List.take_succ_eq_append_getElem hlt, rulesTold_snoc]
        congr 2
        by_cases hz : j = 0
        · subst hz; simp
        · have : ms.take j ≠ [] := fun e => by have h9 := congrArg List.length e; rw [List.length_take, List.length_nil] at h9; omega
          simp [hz, this]
      have hb := unhide HMS ms[j] (List.getElem_mem hlt)
      generalize ms[j] = p at *
      have HST := hide hst
      have hil := itoa_len (n := (p : Int) + 1) (by omega) (by omega)
      clear hx hc hm hgl hwi hok hown hst
      by_cases hz : j = 0
      · subst hz
        go_wp2_with fail
        refine (itoa_any _ _ (by omega) (by omega) (tab_below A.out.2.1.bl (unhide HT))).mono ?_
        rintro e w2 ⟨rfl, hb2⟩
        have HW2 := hide (A.out.2.1.below hb2)
        have HO2 := hide (A.out.2.2.1.trans (others_below hb2))
        have HV2 := hide (owns_below A.out.2.2.2 hb2)
        clear hb2
        go_wp2_with fail
        refine (ws_any _ (unhide HW2) (by simp [rulesTold]; omega) (by show (Lib.itoa ((p : Int) + 1)).toArray.size ≤ _; rw [List.size_toArray]; omega)).mono ?_
        rintro e w3 ⟨rfl, hw3, ho3⟩
        have HW3 := hide hw3
        have HO3 := hide ((unhide HO2).trans ho3)
        have HV3 := hide (owns_kept (unhide HW2) ho3 (by decide) (by decide) (unhide HV2))
        clear hw3 ho3
        go_wp2
        go_roundg (ms.length - (0 + 1))
        case measure => have := A.out.1; omega
        case rel =>
          refine ⟨0 + 1, by omega, rfl, by go_num, ?_, unhide HO3, unhide HV3⟩
          rw [unhide HST]
          have := unhide HW3
          simpa [rulesTold] using this
      · have hzb : (0 : Int) < (j : Int) := by omega
        have HZ := hide hz
        clear hz
        go_wp2_with fail
        refine (wb_any _ A.out.2.1 (by simp; omega) (by simp) (by simp)).mono ?_
        rintro e w1' ⟨rfl, hwx, hox⟩
        have HWx := hide hwx
        have HOx := hide (A.out.2.2.1.trans hox)
        have HVx := hide (owns_kept A.out.2.1 hox (by decide) (by decide) A.out.2.2.2)
        clear hwx hox
        go_wp2_with fail
        refine (itoa_any _ _ (by omega) (by omega) (tab_below (unhide HWx).bl (unhide HT))).mono ?_
        rintro e w2 ⟨rfl, hb2⟩
        have HW2 := hide ((unhide HWx).below hb2)
        have HO2 := hide ((unhide HOx).trans (others_below hb2))
        have HV2 := hide (owns_below (unhide HVx) hb2)
        clear hb2
        go_wp2_with fail
        refine (ws_any _ (unhide HW2) (by simp; omega) (by show (Lib.itoa ((p : Int) + 1)).toArray.size ≤ _; rw [List.size_toArray]; omega)).mono ?_
        rintro e w3 ⟨rfl, hw3, ho3⟩
        have HW3 := hide hw3
        have HO3 := hide ((unhide HO2).trans ho3)
        have HV3 := hide (owns_kept (unhide HW2) ho3 (by decide) (by decide) (unhide HV2))
        clear hw3 ho3
        go_wp2
        go_roundg (ms.length - (j + 1))
        case measure => have := A.out.1; omega
        case rel =>
          refine ⟨j + 1, by omega, rfl, by go_num, ?_, unhide HO3, unhide HV3⟩
          rw [unhide HST, if_neg (unhide HZ)]
          have := unhide HW3
          simpa [u8] using this
    · have hje : j = ms.length := by omega
      have HJ := hide hje
      have hjc : ¬ (j : Int) < ms.length := by omega
      clear hje hwi hok hown
      go_wp2_with fail
      refine (wb_any _ A.out.2.1 (by simp; omega) (by simp) (by simp)).mono ?_
      rintro e w1' ⟨rfl, hwx, hox⟩
      have HWx := hide hwx
      have HOx := hide (A.out.2.2.1.trans hox)
      clear hwx hox
      go_wp2
      go_end0
      refine ⟨rfl, ?_, unhide HOx⟩
      have := unhide HWx
      rw [unhide HJ, List.take_length] at this
      simpa [u8] using this
end Go.Proofs.YthnggjaecngbiaaGreatDoor

namespace Go.Proofs.YthnggjaecngbiaaGreatDoor
open Go.RowKit

theorem shownOut_len {p : PVal} (h : -9999999 ≤ p.n) (h' : p.n ≤ 9999999) : (shownOut p).length ≤ 8 := by
  have := itoa_len h h'
  unfold shownOut
  split
  · simp
  · split
    · simp
    · exact this

set_option maxRecDepth 100000 in
set_option maxHeartbeats 1600000 in
theorem writeKnown_any {W0 : World} {b : Nat} {l : List UInt8} {w : World} (it : PItem) (co ro : Option Addr) (cn cc rn rc : Nat) (p : PVal) (ms : List Nat) (mo : Option Addr) (mc : Nat) (h : WInv W0 b l w) (hl : l.length ≤ 10000000) (ht : Tab W0) (hv : w.ownsRow W0.heap.size 3 1 (.slice mo ms.length mc) ms.length (nats ms)) (hml : ms.length ≤ 1000) (hms : ∀ i ∈ ms, i ≤ 1000) (hp : -9999999 ≤ p.n) (hp' : p.n ≤ 9999999) :
    Calls Tryz.prog 71 #[.pointer (some ⟨b, 0, none⟩), .agg #[.string it.name, .bool it.isT, .int .i64 (it.marks : Int), .int .u8 it.policy, .slice co cn cc, .int .i64 (it.drops : Int), .slice ro rn rc], .agg #[.int .i64 p.kind, .int .i64 p.n, .slice mo ms.length mc]] w fun e w' => e = .returned (.tuple #[]) ∧ WInv W0 b (l ++ knownOut it (p, ms)) w' ∧ Lib.OthersKept 5 (some b) w w' := by
  obtain ⟨nm, bT, mk, po, cs, dr, rl⟩ := it
  simp only
  obtain ⟨w0, hw0⟩ : ∃ w0, w0 = ((w.alloc (.cells #[.string nm, .bool bT, .int .i64 (mk : Int), .int .u8 po, .slice co cn cc, .int .i64 (dr : Int), .slice ro rn rc] 119)).alloc (.cells #[.int .i64 p.kind, .int .i64 p.n, .slice mo ms.length mc] 128)) := ⟨_, rfl⟩
  have hb0 : Below w.heap.size w w0 := by rw [hw0]; exact ((Below.refl _ w).alloc (Nat.le_refl _) _).alloc (by simp) _
  have hN0 : Box w.heap.size #[.string nm, .bool bT, .int .i64 (mk : Int), .int .u8 po, .slice co cn cc, .int .i64 (dr : Int), .slice ro rn rc] 119 w0 := by
    unfold Box; rw [hw0, Below.heap_alloc _ _ _ (by simp)]; exact alloc_last w _
  have hN1 : Box (w.heap.size + 1) #[.int .i64 p.kind, .int .i64 p.n, .slice mo ms.length mc] 128 w0 := by
    unfold Box; rw [hw0]
    have := alloc_last (w.alloc (.cells #[.string nm, .bool bT, .int .i64 (mk : Int), .int .u8 po, .slice co cn cc, .int .i64 (dr : Int), .slice ro rn rc] 119)) (.cells #[.int .i64 p.kind, .int .i64 p.n, .slice mo ms.length mc] 128)
    simpa using this
  have hbw := h.blk
  have HW0 := hide (h.below hb0)
  have HO0 := hide (others_below (e := 5) (b := some b) hb0)
  have HV0 := hide (owns_below hv hb0)
  have HN0 := hide hN0
  have HN1 := hide hN1
  have HT := hide ht
  have HMS := hide hms
  have hsl := shownOut_len hp hp'
  obtain ⟨⟨d0, d1, d2⟩, _⟩ := box3 hN1
  have hs1 := lt_of_block hN1
  have hne0 : w.heap.size ≠ b := by omega
  have hne1 : w.heap.size + 1 ≠ b := by omega
  clear h hb0 hv hN0 hN1 ht hms
  go_enter Tryz.func71, Tryz.ntmps71
  go_wp2_with fail
  rw [← hw0]
  clear hw0
  refine (valueText_any p _ hp hp' (tab_below (unhide HW0).bl (unhide HT))).mono ?_
  rintro e w1 ⟨rfl, hb1⟩
  have HW1 := hide ((unhide HW0).below hb1)
  have HO1 := hide ((unhide HO0).trans (others_below hb1))
  have HV1 := hide (owns_below (unhide HV0) hb1)
  have HN01 : Hid (Box _ _ _ w1) := hide ((hb1.block _ (lt_of_block (unhide HN0))).trans (unhide HN0))
  have HN11 : Hid (Box _ _ _ w1) := hide ((hb1.block _ (lt_of_block (unhide HN1))).trans (unhide HN1))
  clear hb1 d0 d1 d2 hs1
  go_wp2_with fail
  refine (ws_any _ (unhide HW1) (by omega) (by show (shownOut p).toArray.size ≤ _; rw [List.size_toArray]; omega)).mono ?_
  rintro e w2 ⟨rfl, hw2, ho2⟩
  have HW2 := hide hw2
  have HO2 := hide ((unhide HO1).trans ho2)
  have HV2 := hide (owns_kept (unhide HW1) ho2 (by decide) (by decide) (unhide HV1))
  have hN02 := (unhide HN01).kept ho2 hne0 (by decide)
  have hN12 := (unhide HN11).kept ho2 hne1 (by decide)
  have HN12 := hide hN12
  obtain ⟨⟨c0, c1, c2, c3, c4, c5, c6⟩, f0, f1, f2, f3, f4, f5, f6⟩ := cells7 hN02
  have hs2 := lt_of_block hN02
  clear hw2 ho2 hN02 hN12 c0 c2 c3 c4 c6 f0 f1 f2 f3 f4 f5 f6
  cases bT with
  | false =>
    go_wp2_with fail
    go_end0
    refine ⟨rfl, ?_, unhide HO2⟩
    have := unhide HW2
    simpa [knownOut] using this
  | true =>
    by_cases hd : dr = 0
    · subst hd
      go_wp2_with fail
      refine (wb_any _ (unhide HW2) (by simp; omega) (by simp) (by simp)).mono ?_
      rintro e w3 ⟨rfl, hw3, ho3⟩
      have HW3 := hide hw3
      have HO3 := hide ((unhide HO2).trans ho3)
      have HV3 := hide (owns_kept (unhide HW2) ho3 (by decide) (by decide) (unhide HV2))
      have hN13 := (unhide HN12).kept ho3 hne1 (by decide)
      obtain ⟨⟨d0, d1, d2⟩, _⟩ := box3 hN13
      have hs3 := lt_of_block hN13
      clear hw3 ho3 hN13
      go_wp2_with fail
      refine (writeRules_any _ ms (unhide HW3) (by simp; omega) (unhide HT) (unhide HV3) hml (unhide HMS)).mono ?_
      rintro e w4 ⟨rfl, hw4, ho4⟩
      have HW4 := hide hw4
      have HO4 := hide ((unhide HO3).trans ho4)
      clear hw4 ho4
      go_wp2_with fail
      go_end0
      refine ⟨rfl, ?_, unhide HO4⟩
      have := unhide HW4
      simpa [knownOut, u8] using this
    · have hdb : ((dr : Int) == 0) = false := by simpa using hd
      have HD := hide hd
      clear hd
      go_wp2_with fail
      go_end0
      refine ⟨rfl, ?_, unhide HO2⟩
      have := unhide HW2
      simpa [knownOut, unhide HD] using this
end Go.Proofs.YthnggjaecngbiaaGreatDoor

