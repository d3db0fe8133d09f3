import Derived.Test.YthnggjaecngbiaaDoorCkB
namespace Go.Proofs.YthnggjaecngbiaaDoor
open Go.RowKit

/-- No list of an item is too long to be counted. -/
def SmallI (it : PItem) : Prop := it.cols.length ≤ 100000 ∧ it.rules.length ≤ 100000 ∧ ∀ r ∈ it.rules, r.tests.length ≤ 100000

theorem zip_any (vs : List Value) : ∀ (rs : List PRule) (p : PRule → Bool), vs.length = rs.length → (vs.zip rs).any (fun y => p y.2) = rs.any p := by
  induction vs with
  | nil => intro rs p h; cases rs with
    | nil => rfl
    | cons r rs => simp at h
  | cons v vs ih => intro rs p h; cases rs with
    | nil => simp at h
    | cons r rs => simp only [List.zip_cons_cons, List.any_cons]; rw [ih rs p (by simpa using h)]

set_option maxRecDepth 100000 in
set_option maxHeartbeats 1600000 in
theorem itemBeyond_any (x : LItem) (w : World) (hv : ItemV w x) (hl : SmallI x.it) :
    Calls Tryd.prog 32 #[iv x.it x.cv x.rv] w fun e w' => e = .returned (.bool (itemBeyond x.it)) ∧ Below w.heap.size w w' := by
  obtain ⟨it, cv, rv0, vs⟩ := x
  obtain ⟨co, cc, hcv⟩ := hv.1.form
  obtain ⟨ro, rc, hrv⟩ := hv.2.2.1.form
  simp only at hcv hrv
  subst hcv hrv
  have hv2 := hv.below ((Below.refl _ w).alloc (Nat.le_refl _) (.cells (icells it (.slice co it.cols.length cc) (.slice ro it.rules.length rc)) 47))
  have HV := hide hv2
  obtain ⟨hl1, hl2, hl3⟩ := hl
  simp only at hl1 hl2 hl3
  have HL := hide hl3
  clear hv hv2 hl3
  simp only [iv, icells, itemBeyond]
  cases h1 : decide (3 < it.cols.length) with
  | true =>
    have h1b : decide ((3 : Int) < it.cols.length) = true := by simp at h1 ⊢; omega
    clear h1
    go_enter Tryd.func32, Tryd.ntmps32
    go_wp2_with fail
    go_ret
    exact ⟨rfl, (Below.refl _ _).alloc (Nat.le_refl _) _⟩
  | false =>
    have h1b : decide ((3 : Int) < it.cols.length) = false := by simp at h1 ⊢; omega
    clear h1
    cases h2 : decide (8 < it.rules.length) with
    | true =>
      have h2b : decide ((8 : Int) < it.rules.length) = true := by simp at h2 ⊢; omega
      clear h2
      go_enter Tryd.func32, Tryd.ntmps32
      go_wp2_with fail
      go_ret
      exact ⟨rfl, (Below.refl _ _).alloc (Nat.le_refl _) _⟩
    | false =>
      have h2b : decide ((8 : Int) < it.rules.length) = false := by simp at h2 ⊢; omega
      clear h2
      go_enter Tryd.func32, Tryd.ntmps32
      go_wp2_with fail
      have hz : (vs.zip it.rules).length = it.rules.length := by have := (unhide HV).2.1; simp at this ⊢; omega
      refine (containsRules_any _ (vs.zip it.rules) _ (by rw [hz]; exact (unhide HV).2.2.1) (fun y hy => ⟨(unhide HV).2.2.2 y hy, HL.out y.2 (List.of_mem_zip hy).2⟩) (by omega)).mono ?_
      rintro e w1 ⟨rfl, hb⟩
      rw [zip_any vs it.rules ruleBeyond (unhide HV).2.1]
      have HB := hide hb
      clear hb hz
      go_wp2
      go_ret
      exact ⟨rfl, below_after ((Below.refl _ _).alloc (Nat.le_refl _) _) (unhide HB)⟩

set_option maxRecDepth 100000 in
set_option maxHeartbeats 1600000 in
theorem indexBeyond_any (v : Value) (xs : List LItem) (w : World) (hv : SlAt w 7 v xs.length (xs.flatMap itCells)) (ht : ∀ x ∈ xs, ItemV w x ∧ SmallI x.it) (hl : xs.length ≤ 100000) :
    Calls Tryd.prog 48 #[v, .func (.func 32) #[] #[]] w fun e w' => (∃ n : Int, e = .returned (.int .i64 n) ∧ xs.any (fun x => itemBeyond x.it) = decide (0 ≤ n)) ∧ Below w.heap.size w w' := by
  obtain ⟨ao, cap, rfl⟩ := hv.form
  have HV := hide hv
  clear hv
  go_enter Tryd.func48, Tryd.ntmps48
  go_wp2_with fail
  go_loopg [8] xs.length (fun g i wr => ∃ j : Nat, j ≤ xs.length ∧ g = xs.length - j ∧ i = .int .i64 (j : Int) ∧ (xs.take j).any (fun x => itemBeyond x.it) = false ∧ Below w.heap.size w wr)
  case atStart => exact ⟨0, by omega, rfl, rfl, by simp, Below.refl _ _⟩
  case round =>
    obtain ⟨j, hj, hg, rfl, hno, hb⟩ := hrel
    have A : Aside (gk = xs.length - j ∧ (xs.take j).any (fun x => itemBeyond x.it) = false ∧ Below w.heap.size w wr) := ⟨hg, hno, hb⟩
    clear hg hno
    by_cases hlt : j < xs.length
    · rcases unhide HV with ⟨h0, _⟩ | ⟨g, cap', hv, hc, hm, hgl, hx⟩
      · omega
      simp only [Value.slice.injEq] at hv
      obtain ⟨rfl, _, rfl⟩ := hv
      have key : ∀ i, i < 7 → wr.cell? ⟨g, j * 7 + i, none⟩ = (itCells xs[j])[i]? := fun i hi => by
        rw [hb.cell (p := ⟨g, j * 7 + i, none⟩) hgl, hx _ (by omega)]
        exact flat_at itCells 7 (fun _ => rfl) xs j i hlt hi
      have k0 := key 0 (by omega)
      have k1 := key 1 (by omega)
      have k2 := key 2 (by omega)
      have k3 := key 3 (by omega)
      have k4 := key 4 (by omega)
      have k5 := key 5 (by omega)
      have k6 := key 6 (by omega)
      have HT := hide (any_take_succ (fun x => itemBeyond x.it) xs j hlt)
      simp only [itCells, icells, List.getElem?_cons_zero, List.getElem?_cons_succ, Nat.add_zero] at k0 k1 k2 k3 k4 k5 k6
      have hjc : (j : Int) < xs.length := by omega
      have hy := ht xs[j] (List.getElem_mem hlt)
      have hyb := hy.1.below hb
      have hyl := hy.2
      clear hy
      generalize xs[j] = x at *
      have HY := hide hyb
      have HL := hide hyl
      clear hyb hyl
      clear key hx hb hc hm hgl
      cases hp : itemBeyond x.it with
      | true =>
        have HP := hide hp
        clear hp
        go_wp2_with (go_at_call 32; refine (itemBeyond_any x _ (by exact unhide HY) (unhide HL)).mono ?_; rintro e w1 ⟨rfl, hb1⟩; rw [unhide HP]; have HB := hide (below_after A.out.2.2 hb1); clear hb1)
        go_ret
        refine ⟨⟨_, rfl, ?_⟩, unhide HB⟩
        rw [any_of_take (j := j + 1) (by rw [unhide HT, A.out.2.1, Bool.false_or]; exact unhide HP)]
        simp
      | false =>
        have HP := hide hp
        clear hp
        go_wp2_with (go_at_call 32; refine (itemBeyond_any x _ (by exact unhide HY) (unhide HL)).mono ?_; rintro e w1 ⟨rfl, hb1⟩; rw [unhide HP]; have HB := hide (below_after A.out.2.2 hb1); clear hb1)
        go_roundg (xs.length - (j + 1))
        case measure => have := A.out.1; omega
        case rel => exact ⟨j + 1, by omega, rfl, by go_num, by rw [unhide HT, A.out.2.1, Bool.false_or]; exact unhide HP, unhide HB⟩
    · have hje : j = xs.length := by omega
      have HJ := hide hje
      have hjc : ¬ (j : Int) < xs.length := by omega
      clear hje hb
      go_wp2
      go_ret
      refine ⟨⟨_, rfl, ?_⟩, A.out.2.2⟩
      have := A.out.2.1
      rw [unhide HJ, List.take_length] at this
      rw [this]
      rfl

set_option maxHeartbeats 400000 in
theorem containsBeyond_any (v : Value) (xs : List LItem) (w : World) (hv : SlAt w 7 v xs.length (xs.flatMap itCells)) (ht : ∀ x ∈ xs, ItemV w x ∧ SmallI x.it) (hl : xs.length ≤ 100000) :
    Calls Tryd.prog 31 #[v, .func (.func 32) #[] #[]] w fun e w' => e = .returned (.bool (xs.any (fun x => itemBeyond x.it))) ∧ Below w.heap.size w w' := by
  have HV := hide hv
  clear hv
  go_enter Tryd.func31, Tryd.ntmps31
  go_wp2_with fail
  refine (indexBeyond_any _ _ _ (unhide HV) ht hl).mono ?_
  rintro e w1 ⟨⟨n, rfl, hn⟩, hb⟩
  have HB := hide hb
  have HN := hide hn
  clear hb hn
  go_wp2
  go_ret
  exact ⟨ret_bool (unhide HN).symm, unhide HB⟩

end Go.Proofs.YthnggjaecngbiaaDoor
