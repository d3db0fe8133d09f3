import Derived.Test.YtdgbmcbkbkbdoaaGreatDoorRfH
import Derived.Test.YtdgbmcbkbkbdoaaGreatDoorCkF
namespace Go.Proofs.YtdgbmcbkbkbdoaaGreatDoor
open Go.RowKit

def ritCells (x : LItem) : List Value := (ricells x.it x.cv x.rv).toList
def RItemV (w : World) (x : LItem) : Prop := x.vs.length = x.it.rules.length ∧ SlAt w 1 x.cv x.it.cols.length (x.it.cols.map Value.string) ∧ SlAt w 2 x.rv x.it.rules.length (rcells x.vs x.it.rules) ∧ ∀ t ∈ x.vs.zip x.it.rules, SlAt w 4 t.1 t.2.tests.length (rtsCells t.2.tests)
def RItemsV (w : World) (v : Value) (xs : List LItem) : Prop := SlAt w 6 v xs.length (xs.flatMap ritCells) ∧ ∀ x ∈ xs, RItemV w x
theorem RItemV.below {w w' : World} {x : LItem} (h : RItemV w x) (g : Below w.heap.size w w') : RItemV w' x := ⟨h.1, h.2.1.below g, h.2.2.1.below g, fun t ht => (h.2.2.2 t ht).below g⟩
theorem RItemsV.below {w w' : World} {v : Value} {xs : List LItem} (h : RItemsV w v xs) (g : Below w.heap.size w w') : RItemsV w' v xs := ⟨h.1.below g, fun x hx => (h.2 x hx).below g⟩
theorem RItemV.of_at {w : World} {base : Nat} {x : LItem} (h : RItemAt base w x) : RItemV w x :=
  ⟨h.1, SlAt.of_owns h.2.co, SlAt.of_owns h.2.ru, fun t ht => SlAt.of_owns (h.2.te (t.1, t.2.tests.length, rtsCells t.2.tests) (by unfold tlOf; exact List.mem_map.2 ⟨t, ht, rfl⟩))⟩
theorem below_drewN (w : World) (n : Nat) : Below w.heap.size w (w.drewN n) := ⟨rfl, rfl, rfl, Nat.le_refl _, fun _ _ => rfl⟩

set_option maxRecDepth 100000 in
set_option maxHeartbeats 1600000 in
theorem rfind_any (v : Value) (xs : List LItem) (nm : ByteArray) (w : World) (hv : RItemsV w v xs) (hl : xs.length ≤ 100000) :
    Calls Tryz.prog 67 #[v, .string nm] w fun e w' => (∃ n : Int, e = .returned (.int .i64 n) ∧ namedP (xs.map LItem.it) nm = decide (0 ≤ n)) ∧ Below w.heap.size w w' := by
  obtain ⟨ao, cap, rfl⟩ := hv.1.form
  have HV := hide hv
  clear hv
  go_enter Tryz.func67, Tryz.ntmps67
  go_wp2_with fail
  go_loopg [5] xs.length (fun g i wr => ∃ j : Nat, j ≤ xs.length ∧ g = xs.length - j ∧ i = .int .i64 (j : Int) ∧ (xs.take j).any (fun x => sameName x.it.name nm) = false ∧ Below w.heap.size w wr)
  case atStart => exact ⟨0, by omega, rfl, rfl, by simp, Below.refl _ _⟩
  case round =>
    obtain ⟨j, hj, hg, rfl, hno, hb⟩ := hrel
    have A : Aside (gk = xs.length - j ∧ (xs.take j).any (fun x => sameName x.it.name nm) = false ∧ Below w.heap.size w wr) := ⟨hg, hno, hb⟩
    clear hg hno
    by_cases hlt : j < xs.length
    · rcases (unhide HV).1 with ⟨h0, _⟩ | ⟨g, cap', hv, hc, hm, hgl, hx⟩
      · omega
      simp only [Value.slice.injEq] at hv
      obtain ⟨rfl, _, rfl⟩ := hv
      have key : ∀ i, i < 6 → wr.cell? ⟨g, j * 6 + i, none⟩ = (ritCells xs[j])[i]? := fun i hi => by
        rw [hb.cell (p := ⟨g, j * 6 + i, none⟩) hgl, hx _ (by omega)]
        exact flat_at ritCells 6 (fun _ => rfl) xs j i hlt hi
      have k0 := key 0 (by omega)
      simp only [ritCells, ricells, List.getElem?_cons_zero, Nat.add_zero] at k0
      have HT := hide (any_take_succ (fun x => sameName x.it.name nm) xs j hlt)
      have hjc : (j : Int) < xs.length := by omega
      have hjcap : (j : Int) < cap := by omega
      generalize xs[j] = x at *
      clear key hx hb hc hgl
      cases hp : sameName x.it.name nm with
      | true =>
        have hp2 : (x.it.name.toList == nm.toList) = true := hp
        have HP := hide hp
        clear hp
        go_wp2_with fail
        go_ret
        refine ⟨⟨(j : Int), rfl, ?_⟩, A.out.2.2⟩
        have : xs.any (fun x => sameName x.it.name nm) = true := any_of_take (j := j + 1) (by rw [unhide HT, A.out.2.1, unhide HP]; rfl)
        unfold namedP
        rw [List.any_map]
        simp only [Function.comp_def]
        rw [this]; simp
      | false =>
        have hp2 : (x.it.name.toList == nm.toList) = false := hp
        have HP := hide hp
        clear hp
        go_wp2_with fail
        go_roundg (xs.length - (j + 1))
        case measure => have := A.out.1; omega
        case rel => exact ⟨j + 1, by omega, rfl, by go_num, by rw [unhide HT, A.out.2.1, unhide HP]; rfl, A.out.2.2⟩
    · have hje : j = xs.length := by omega
      have hjc : ¬ (j : Int) < xs.length := by omega
      have HE : Hid (xs.any (fun x => sameName x.it.name nm) = false) := hide (by have := A.out.2.1; rw [hje, List.take_length] at this; exact this)
      clear hje hb
      go_wp2_with fail
      go_ret
      refine ⟨⟨-1, rfl, ?_⟩, A.out.2.2⟩
      unfold namedP
      rw [List.any_map]
      simp only [Function.comp_def]
      rw [unhide HE]; rfl
end Go.Proofs.YtdgbmcbkbkbdoaaGreatDoor
