import Derived.Test.YthnggjaecngbiaaDoorCkA
namespace Go.Proofs.YthnggjaecngbiaaDoor
open Go.RowKit

set_option maxHeartbeats 400000 in
theorem ruleBeyond_any (ao : Option Addr) (cap : Nat) (ts : List PTest) (num : Int) (w : World) (hv : SlAt w 4 (.slice ao ts.length cap) ts.length (tsCells ts)) (hl : ts.length ≤ 100000) :
    Calls Tryd.prog 50 #[.agg #[.slice ao ts.length cap, .int .i64 num]] w fun e w' => e = .returned (.bool (ruleBeyond ⟨ts, num⟩)) ∧ Below w.heap.size w w' := by
  have HV := hide (hv.below ((Below.refl _ w).alloc (Nat.le_refl _) (.cells #[.slice ao ts.length cap, .int .i64 num] 64)))
  clear hv
  simp only [ruleBeyond]
  cases h1 : numBeyond num with
  | true =>
    have H1 := hide h1
    clear h1
    go_enter Tryd.func50, Tryd.ntmps50
    go_wp2_with (go_at_call 64; refine (numBeyond_any _ _).mono ?_; rintro e w1 ⟨rfl, rfl⟩; rw [unhide H1])
    go_ret
    exact ⟨rfl, (Below.refl _ _).alloc (Nat.le_refl _) _⟩
  | false =>
    have H1 := hide h1
    clear h1
    go_enter Tryd.func50, Tryd.ntmps50
    go_wp2_with fail
    refine (numBeyond_any _ _).mono ?_
    rintro e w1 ⟨rfl, rfl⟩
    rw [unhide H1]
    go_wp2_with fail
    refine (containsTests_any _ _ _ (unhide HV) hl).mono ?_
    rintro e w1 ⟨rfl, hb⟩
    have HB := hide hb
    clear hb
    go_wp2
    go_ret
    exact ⟨rfl, below_after ((Below.refl _ _).alloc (Nat.le_refl _) _) (unhide HB)⟩

def zcells (y : Value × PRule) : List Value := [y.1, .int .i64 y.2.num]
theorem rcells_z (vs : List Value) (rs : List PRule) : rcells vs rs = (vs.zip rs).flatMap zcells := rfl

set_option maxRecDepth 100000 in
set_option maxHeartbeats 1600000 in
theorem indexRules_any (v : Value) (zs : List (Value × PRule)) (w : World) (hv : SlAt w 2 v zs.length (zs.flatMap zcells)) (ht : ∀ y ∈ zs, SlAt w 4 y.1 y.2.tests.length (tsCells y.2.tests) ∧ y.2.tests.length ≤ 100000) (hl : zs.length ≤ 100000) :
    Calls Tryd.prog 63 #[v, .func (.func 50) #[] #[]] w fun e w' => (∃ n : Int, e = .returned (.int .i64 n) ∧ zs.any (fun y => ruleBeyond y.2) = decide (0 ≤ n)) ∧ Below w.heap.size w w' := by
  obtain ⟨ao, cap, rfl⟩ := hv.form
  have HV := hide hv
  clear hv
  go_enter Tryd.func63, Tryd.ntmps63
  go_wp2_with fail
  go_loopg [8] zs.length (fun g i wr => ∃ j : Nat, j ≤ zs.length ∧ g = zs.length - j ∧ i = .int .i64 (j : Int) ∧ (zs.take j).any (fun y => ruleBeyond y.2) = false ∧ Below w.heap.size w wr)
  case atStart => exact ⟨0, by omega, rfl, rfl, by simp, Below.refl _ _⟩
  case round =>
    obtain ⟨j, hj, hg, rfl, hno, hb⟩ := hrel
    have A : Aside (gk = zs.length - j ∧ (zs.take j).any (fun y => ruleBeyond y.2) = false ∧ Below w.heap.size w wr) := ⟨hg, hno, hb⟩
    clear hg hno
    by_cases hlt : j < zs.length
    · rcases unhide HV with ⟨h0, _⟩ | ⟨g, cap', hv, hc, hm, hgl, hx⟩
      · omega
      simp only [Value.slice.injEq] at hv
      obtain ⟨rfl, _, rfl⟩ := hv
      have key : ∀ i, i < 2 → wr.cell? ⟨g, j * 2 + i, none⟩ = (zcells zs[j])[i]? := fun i hi => by
        rw [hb.cell (p := ⟨g, j * 2 + i, none⟩) hgl, hx _ (by omega)]
        exact flat_at zcells 2 (fun _ => rfl) zs j i hlt hi
      have k0 := key 0 (by omega)
      have k1 := key 1 (by omega)
      have HT := hide (any_take_succ (fun y => ruleBeyond y.2) zs j hlt)
      simp only [zcells, List.getElem?_cons_zero, List.getElem?_cons_succ, Nat.add_zero] at k0 k1
      have hjc : (j : Int) < zs.length := by omega
      have hy := ht zs[j] (List.getElem_mem hlt)
      have hyb := hy.1.below hb
      have hyl := hy.2
      clear hy
      generalize zs[j] = y at *
      obtain ⟨yv, yts, ynum⟩ := y
      simp only at k0 k1 hyb hyl
      obtain ⟨yo, yc, rfl⟩ := hyb.form
      have HY := hide hyb
      clear hyb
      clear key hx hb hc hm hgl
      cases hp : ruleBeyond ⟨yts, ynum⟩ with
      | true =>
        have HP := hide hp
        clear hp
        go_wp2_with (go_at_call 50; refine (ruleBeyond_any _ _ _ _ _ (by exact unhide HY) hyl).mono ?_; rintro e w1 ⟨rfl, hb1⟩; rw [unhide HP]; have HB := hide (below_after A.out.2.2 hb1); clear hb1)
        go_ret
        refine ⟨⟨_, rfl, ?_⟩, unhide HB⟩
        rw [any_of_take (j := j + 1) (by rw [unhide HT, A.out.2.1, Bool.false_or]; exact unhide HP)]
        simp
      | false =>
        have HP := hide hp
        clear hp
        go_wp2_with (go_at_call 50; refine (ruleBeyond_any _ _ _ _ _ (by exact unhide HY) hyl).mono ?_; rintro e w1 ⟨rfl, hb1⟩; rw [unhide HP]; have HB := hide (below_after A.out.2.2 hb1); clear hb1)
        go_roundg (zs.length - (j + 1))
        case measure => have := A.out.1; omega
        case rel => exact ⟨j + 1, by omega, rfl, by go_num, by rw [unhide HT, A.out.2.1, Bool.false_or]; exact unhide HP, unhide HB⟩
    · have hje : j = zs.length := by omega
      have HJ := hide hje
      have hjc : ¬ (j : Int) < zs.length := by omega
      clear hje hb
      go_wp2
      go_ret
      refine ⟨⟨_, rfl, ?_⟩, A.out.2.2⟩
      have := A.out.2.1
      rw [unhide HJ, List.take_length] at this
      rw [this]
      rfl

set_option maxHeartbeats 400000 in
theorem containsRules_any (v : Value) (zs : List (Value × PRule)) (w : World) (hv : SlAt w 2 v zs.length (zs.flatMap zcells)) (ht : ∀ y ∈ zs, SlAt w 4 y.1 y.2.tests.length (tsCells y.2.tests) ∧ y.2.tests.length ≤ 100000) (hl : zs.length ≤ 100000) :
    Calls Tryd.prog 49 #[v, .func (.func 50) #[] #[]] w fun e w' => e = .returned (.bool (zs.any (fun y => ruleBeyond y.2))) ∧ Below w.heap.size w w' := by
  have HV := hide hv
  clear hv
  go_enter Tryd.func49, Tryd.ntmps49
  go_wp2_with fail
  refine (indexRules_any _ _ _ (unhide HV) ht hl).mono ?_
  rintro e w1 ⟨⟨n, rfl, hn⟩, hb⟩
  have HB := hide hb
  have HN := hide hn
  clear hb hn
  go_wp2
  go_ret
  exact ⟨ret_bool (unhide HN).symm, unhide HB⟩

end Go.Proofs.YthnggjaecngbiaaDoor
