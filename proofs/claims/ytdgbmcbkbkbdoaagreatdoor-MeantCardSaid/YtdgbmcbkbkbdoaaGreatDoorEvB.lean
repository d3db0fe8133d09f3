import Derived.Test.YtdgbmcbkbkbdoaaGreatDoorCkF
namespace Go.Proofs.YtdgbmcbkbkbdoaaGreatDoor
open Go.RowKit

def ints (l : List Int) : List Value := l.map (Value.int .i64)

set_option maxRecDepth 100000 in
set_option maxHeartbeats 1600000 in
theorem indexInts_any (v : Value) (l : List Int) (w : World) (hv : SlAt w 1 v l.length (ints l)) (hl : l.length ≤ 100000) :
    Calls Tryz.prog 88 #[v, .func (.func 59) #[] #[]] w fun e w' => (∃ n : Int, e = .returned (.int .i64 n) ∧ l.any numBeyond = decide (0 ≤ n)) ∧ Below w.heap.size w w' := by
  obtain ⟨ao, cap, rfl⟩ := hv.form
  have HV := hide hv
  clear hv
  go_enter Tryz.func88, Tryz.ntmps88
  go_wp2_with fail
  go_loopg [8] l.length (fun g i wr => ∃ j : Nat, j ≤ l.length ∧ g = l.length - j ∧ i = .int .i64 (j : Int) ∧ (l.take j).any numBeyond = false ∧ Below w.heap.size w wr)
  case atStart => exact ⟨0, by omega, rfl, rfl, by simp, Below.refl _ _⟩
  case round =>
    obtain ⟨j, hj, hg, rfl, hno, hb⟩ := hrel
    have A : Aside (gk = l.length - j ∧ (l.take j).any numBeyond = false ∧ Below w.heap.size w wr) := ⟨hg, hno, hb⟩
    clear hg hno
    by_cases hlt : j < l.length
    · rcases unhide HV with ⟨h0, _⟩ | ⟨g, cap', hv, hc, hm, hgl, hx⟩
      · omega
      simp only [Value.slice.injEq] at hv
      obtain ⟨rfl, _, rfl⟩ := hv
      have k0 : wr.cell? ⟨g, j, none⟩ = some (.int .i64 l[j]) := by
        rw [hb.cell (p := ⟨g, j, none⟩) hgl, hx j (by omega)]
        simp [ints, hlt]
      have HT := hide (any_take_succ numBeyond l j hlt)
      have hjc : (j : Int) < l.length := by omega
      generalize l[j] = x at *
      clear hx hb hc hm hgl
      cases hp : numBeyond x with
      | true =>
        have HP := hide hp
        clear hp
        go_wp2_with (go_at_call 59; refine (numBeyond_any _ _).mono ?_; rintro e w1 ⟨rfl, rfl⟩; rw [unhide HP])
        go_ret
        refine ⟨⟨_, rfl, ?_⟩, A.out.2.2⟩
        rw [any_of_take (j := j + 1) (by rw [unhide HT, A.out.2.1, Bool.false_or]; exact unhide HP)]
        simp
      | false =>
        have HP := hide hp
        clear hp
        go_wp2_with (go_at_call 59; refine (numBeyond_any _ _).mono ?_; rintro e w1 ⟨rfl, rfl⟩; rw [unhide HP])
        go_roundg (l.length - (j + 1))
        case measure => have := A.out.1; omega
        case rel => exact ⟨j + 1, by omega, rfl, by go_num, by rw [unhide HT, A.out.2.1, Bool.false_or]; exact unhide HP, A.out.2.2⟩
    · have hje : j = l.length := by omega
      have HJ := hide hje
      have hjc : ¬ (j : Int) < l.length := by omega
      clear hje hb
      go_wp2
      go_ret
      refine ⟨⟨_, rfl, ?_⟩, A.out.2.2⟩
      have := A.out.2.1
      rw [unhide HJ, List.take_length] at this
      rw [this]
      rfl

set_option maxHeartbeats 400000 in
theorem containsInts_any (v : Value) (l : List Int) (w : World) (hv : SlAt w 1 v l.length (ints l)) (hl : l.length ≤ 100000) :
    Calls Tryz.prog 58 #[v, .func (.func 59) #[] #[]] w fun e w' => e = .returned (.bool (l.any numBeyond)) ∧ Below w.heap.size w w' := by
  have HV := hide hv
  clear hv
  go_enter Tryz.func58, Tryz.ntmps58
  go_wp2_with fail
  refine (indexInts_any _ _ _ (unhide HV) hl).mono ?_
  rintro e w1 ⟨⟨n, rfl, hn⟩, hb⟩
  have HB := hide hb
  have HN := hide hn
  clear hb hn
  go_wp2
  go_ret
  exact ⟨ret_bool (unhide HN).symm, unhide HB⟩
end Go.Proofs.YtdgbmcbkbkbdoaaGreatDoor
