import Derived.Test.YthnggjaecngbiaaDoorPlD
import Derived.Deep.DeepFit
namespace Go.Proofs.YthnggjaecngbiaaDoor
open Go.RowKit

def itemOut (it : PItem) : List UInt8 := (if it.isT then tableOut it else inputOut it) ++ [10]
def planOut (its : List PItem) : List UInt8 := its.flatMap itemOut

theorem itemOut_len {it : PItem} (h : WfI it) : (itemOut it).length ≤ 1200000000 := by
  have h1 : it.name.data.toList.length ≤ 8 := by have := h.name; simpa using this
  have h2 := marksOut_len 47 it.marks
  have h3 := marksOut_len 92 it.drops
  have h4 := joinOut_len h.clen h.cols
  have h5 := rulesOut_len it.rules h.rules
  have h6 := h.rlen
  unfold itemOut
  split
  · unfold tableOut
    simp only [List.length_append, List.length_cons, List.length_nil]
    omega
  · unfold inputOut
    simp only [List.length_append, List.length_cons, List.length_nil]
    omega
theorem planOut_len (its : List PItem) (h : ∀ i ∈ its, WfI i) : (planOut its).length ≤ its.length * 1200000000 := by
  induction its with
  | nil => simp [planOut]
  | cons i its ih =>
    have h1 := itemOut_len (h i (by simp))
    have h2 := ih (fun x hx => h x (by simp [hx]))
    unfold planOut at h2 ⊢
    rw [List.flatMap_cons, List.length_append, List.length_cons]
    omega

set_option maxRecDepth 100000 in
set_option maxHeartbeats 1600000 in
theorem write_any (v : Value) (xs : List LItem) (w : World) (hv : ItemsV w v xs) (hwf : ∀ x ∈ xs, WfI x.it) (hl : xs.length ≤ 1000) (ht : Tab w) :
    Calls Tryd.prog 11 #[v] w fun e w' => e = .returned (.string ⟨(planOut (xs.map LItem.it)).toArray⟩) ∧ Below w.heap.size w w' := by
  obtain ⟨ao, cap, rfl⟩ := hv.1.form
  have HV := hide hv
  have HF := hide hwf
  have HT := hide ht
  have HW0 : Hid (WInv w w.heap.size [] (w.alloc (.cells #[.pointer none, .slice none 0 0] 43))) :=
    ⟨(Below.refl _ w).alloc (Nat.le_refl _) _, Or.inl ⟨Nat.le_refl _, .slice none 0 0, alloc_last w _, World.ownsRowF_nil _ _ _ _, by simp [Value.ownBlock]⟩⟩
  clear hv hwf ht
  go_enter Tryd.func11, Tryd.ntmps11
  go_wp2_with fail
  go_loopg [8] xs.length (fun g i wr => ∃ j : Nat, j ≤ xs.length ∧ g = xs.length - j ∧ i = .int .i64 (j : Int) ∧ WInv w w.heap.size (planOut ((xs.take j).map LItem.it)) wr)
  case atStart => exact ⟨0, by omega, rfl, rfl, by simpa [planOut] using unhide HW0⟩
  case round =>
    obtain ⟨j, hj, hg, rfl, hwi⟩ := hrel
    have A : Aside (gk = xs.length - j ∧ WInv w w.heap.size (planOut ((xs.take j).map LItem.it)) wr) := ⟨hg, hwi⟩
    clear hg HW0
    have hpl : (planOut ((xs.take j).map LItem.it)).length ≤ 1200000000000 := by
      have := planOut_len ((xs.take j).map LItem.it) (fun i hi => by
        rw [List.mem_map] at hi
        obtain ⟨x, hx, rfl⟩ := hi
        exact HF.out x (List.mem_of_mem_take hx))
      simp only [List.length_map, List.length_take] at this
      omega
    by_cases hlt : j < xs.length
    · rcases (unhide HV).1 with ⟨h0, _⟩ | ⟨g, cap', hv, hc, hm, hgl, hx⟩
      · omega
      simp only [Value.slice.injEq] at hv
      obtain ⟨rfl, _, rfl⟩ := hv
      have key : ∀ i, i < 7 → wr.cell? ⟨g, j * 7 + i, none⟩ = (itCells xs[j])[i]? := fun i hi => by
        rw [hwi.bl.cell (p := ⟨g, j * 7 + i, none⟩) hgl, hx _ (by omega)]
        exact flat_at itCells 7 (fun _ => rfl) xs j i hlt hi
      have k0 := key 0 (by omega)
      have k1 := key 1 (by omega)
      have k2 := key 2 (by omega)
      have k3 := key 3 (by omega)
      have k4 := key 4 (by omega)
      have k5 := key 5 (by omega)
      have k6 := key 6 (by omega)
      simp only [itCells, icells, List.getElem?_cons_zero, List.getElem?_cons_succ, Nat.add_zero] at k0 k1 k2 k3 k4 k5 k6
      have hxi := (unhide HV).2 xs[j] (List.getElem_mem hlt)
      have hfx := HF.out xs[j] (List.getElem_mem hlt)
      have htk : planOut ((xs.take (j + 1)).map LItem.it) = planOut ((xs.take j).map LItem.it) ++ itemOut xs[j].it := by
        rw [List.take_succ_eq_append_getElem hlt, List.map_append]
        simp [planOut]
      have hjc : (j : Int) < xs.length := by omega
      generalize xs[j] = x at *
      obtain ⟨co, cc, hcv⟩ := hxi.1.form
      obtain ⟨ro, rc, hrv⟩ := hxi.2.2.1.form
      obtain ⟨it, cv, rv0, vs⟩ := x
      simp only at k0 k1 k2 k3 k4 k5 k6 hcv hrv htk hfx
      subst hcv hrv
      have hb1 : Below wr.heap.size wr (wr.alloc (.cells (icells it (.slice co it.cols.length cc) (.slice ro it.rules.length rc)) 47)) := (Below.refl _ wr).alloc (Nat.le_refl _) _
      have HWa := hide (hwi.below hb1)
      simp only [icells] at HWa
      have HX := hide hxi
      have HK := hide htk
      obtain ⟨l0, hl0⟩ : ∃ l0, planOut ((xs.take j).map LItem.it) = l0 := ⟨_, rfl⟩
      rw [hl0] at hpl HWa HK
      clear key hx hc hm hgl hwi hb1 hxi htk hl0
      cases hT : it.isT with
      | true =>
        rw [hT] at k1 HWa
        have hio : itemOut it = tableOut it ++ [10] := by unfold itemOut; rw [hT]; rfl
        have HIO := hide hio
        have HTT := hide hT
        clear hio hT
        go_wp2_with fail
        have hcall := writeTable_any it co ro cc rc vs (unhide HWa) (by omega) hfx (unhide HX) (unhide HT)
        simp only [iv, icells] at hcall
        rw [unhide HTT] at hcall
        go_fit hcall
        clear hcall
        rintro e wb ⟨rfl, hwb, _⟩
        have HWb := hide hwb
        clear hwb HWa
        go_wp2_with fail
        refine (wb_any _ (unhide HWb) (by have := itemOut_len hfx; rw [unhide HIO] at this; simp only [List.length_append, List.length_cons, List.length_nil] at this ⊢; omega) (by simp) (by simp)).mono ?_
        rintro e wc ⟨rfl, hwc, _⟩
        have HWc := hide hwc
        clear hwc HWb
        go_wp2
        go_roundg (xs.length - (j + 1))
        case measure => have := A.out.1; omega
        case rel =>
          refine ⟨j + 1, by omega, rfl, by go_num, ?_⟩
          have h9 := unhide HWc
          rw [unhide HK, unhide HIO]
          simpa [u8] using h9
      | false =>
        rw [hT] at k1 HWa
        have hio : itemOut it = inputOut it ++ [10] := by unfold itemOut; rw [hT]; rfl
        have HIO := hide hio
        have HTT := hide hT
        clear hio hT
        go_wp2_with fail
        have hcall := writeInput_any it co ro it.cols.length cc it.rules.length rc (unhide HWa) (by omega) hfx
        simp only [iv, icells] at hcall
        rw [unhide HTT] at hcall
        go_fit hcall
        clear hcall
        rintro e wb ⟨rfl, hwb, _⟩
        have HWb := hide hwb
        clear hwb HWa
        go_wp2_with fail
        refine (wb_any _ (unhide HWb) (by have := itemOut_len hfx; rw [unhide HIO] at this; simp only [List.length_append, List.length_cons, List.length_nil] at this ⊢; omega) (by simp) (by simp)).mono ?_
        rintro e wc ⟨rfl, hwc, _⟩
        have HWc := hide hwc
        clear hwc HWb
        go_wp2
        go_roundg (xs.length - (j + 1))
        case measure => have := A.out.1; omega
        case rel =>
          refine ⟨j + 1, by omega, rfl, by go_num, ?_⟩
          have h9 := unhide HWc
          rw [unhide HK, unhide HIO]
          simpa [u8] using h9
    · have hje : j = xs.length := by omega
      have HJ := hide hje
      have hjc : ¬ (j : Int) < xs.length := by omega
      have hA := A.out.2
      rw [hje, List.take_length] at hA
      have HA := hide hA
      clear hje hwi hA
      go_wp2_with fail
      refine (Tryd.Builder_String_any_k w.heap.size w.heap.size _ _ (unhide HA).bd (unhide HA).bl.size).mono ?_
      rintro e w1 ⟨rfl, _, hb, _⟩
      have HB := hide ((unhide HA).bl.trans hb)
      clear hb
      go_wp2
      go_ret
      exact ⟨rfl, unhide HB⟩

end Go.Proofs.YthnggjaecngbiaaDoor
