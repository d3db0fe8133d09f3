import Derived.Test.YthnggjaecngbiaaGreatDoorEvF
namespace Go.Proofs.YthnggjaecngbiaaGreatDoor
open Go.RowKit

theorem Tryz.info_value : (Tryz.prog.info? 51).map (fun i => (i.zero, i.size, i.bytes)) = some (some (.agg #[.int .i64 0, .int .i64 0]), 2, 16) := by kernel_rfl
theorem Tryz.info_result : (Tryz.prog.info? 128).map (fun i => (i.zero, i.size, i.bytes)) = some (some (.agg #[.int .i64 0, .int .i64 0, .slice none 0 0]), 3, 40) := by kernel_rfl

/-- Things of m cells that are made one by one, zeros behind. -/
def flatZ {α : Type} (f : α → List Value) (z : α) (l : List α) (n : Nat) : List Value := (l ++ List.replicate (n - l.length) z).flatMap f
theorem flat_len {α : Type} (f : α → List Value) (m : Nat) (hm : ∀ x, (f x).length = m) : ∀ l : List α, (l.flatMap f).length = l.length * m
  | [] => by simp
  | x :: l => by rw [List.flatMap_cons, List.length_append, hm, flat_len f m hm l, List.length_cons, Nat.succ_mul, Nat.add_comm]
theorem flatZ_split {α : Type} (f : α → List Value) (z : α) {l : List α} {n : Nat} (h : l.length < n) : ∃ r, flatZ f z l n = l.flatMap f ++ (f z ++ r) ∧ ∀ x, flatZ f z (l ++ [x]) n = l.flatMap f ++ (f x ++ r) := by
  refine ⟨(List.replicate (n - (l.length + 1)) z).flatMap f, ?_, fun x => ?_⟩
  · unfold flatZ
    rw [show n - l.length = (n - (l.length + 1)) + 1 by omega, List.replicate_succ]
    simp
  · unfold flatZ
    simp
theorem flatZ_full {α : Type} (f : α → List Value) (z : α) (l : List α) : flatZ f z l l.length = l.flatMap f := by simp [flatZ]
theorem flatZ_set2 {α : Type} (f : α → List Value) (z : α) {l : List α} {n : Nat} (h : l.length < n) (x : α) {z0 z1 a b : Value} (hm : ∀ x, (f x).length = 2) (hz : f z = [z0, z1]) (hx : f x = [a, b]) :
    ((flatZ f z l n).toArray.setIfInBounds (l.length * 2) a).setIfInBounds (l.length * 2 + 1) b = (flatZ f z (l ++ [x]) n).toArray := by
  obtain ⟨r, h1, h2⟩ := flatZ_split f z h
  have hl := flat_len f 2 hm l
  rw [h1, h2 x, hz, hx]
  apply Array.toList_inj.1
  simp only [Array.toList_setIfInBounds, List.cons_append, List.nil_append]
  rw [List.set_append_right _ _ (by omega), List.set_append_right _ _ (by omega), hl]
  simp
theorem flatZ_set3 {α : Type} (f : α → List Value) (z : α) {l : List α} {n : Nat} (h : l.length < n) (x : α) {z0 z1 z2 a b c : Value} (hm : ∀ x, (f x).length = 3) (hz : f z = [z0, z1, z2]) (hx : f x = [a, b, c]) :
    (((flatZ f z l n).toArray.setIfInBounds (l.length * 3) a).setIfInBounds (l.length * 3 + 1) b).setIfInBounds (l.length * 3 + 2) c = (flatZ f z (l ++ [x]) n).toArray := by
  obtain ⟨r, h1, h2⟩ := flatZ_split f z h
  have hl := flat_len f 3 hm l
  rw [h1, h2 x, hz, hx]
  apply Array.toList_inj.1
  simp only [Array.toList_setIfInBounds, List.cons_append, List.nil_append]
  rw [List.set_append_right _ _ (by omega), List.set_append_right _ _ (by omega), List.set_append_right _ _ (by omega), hl]
  simp
theorem flatZ_zero {α : Type} (f : α → List Value) (z : α) {l : List α} {n m : Nat} (h : l.length < n) (hm : ∀ x, (f x).length = m) (i : Nat) (hi : i < m) : (flatZ f z l n)[l.length * m + i]? = (f z)[i]? := by
  obtain ⟨r, h1, _⟩ := flatZ_split f z h
  have hl := flat_len f m hm l
  rw [h1, List.getElem?_append_right (by omega), hl, Nat.add_sub_cancel_left, List.getElem?_append_left (by rw [hm]; exact hi)]
theorem made_flat {α : Type} (f : α → List Value) (z : α) (m : Nat) (_hm : 0 < m) (hz : (f z).length = m) (n : Nat) : madeCells (f z).toArray (n * m) = (flatZ f z [] n).toArray := by
  have key : ∀ n, (List.replicate n z).flatMap f = (List.range (n * m)).map (fun i => (f z)[i % m]!) := by
    intro n
    induction n with
    | zero => simp
    | succ n ih =>
      rw [List.replicate_succ', List.flatMap_append, ih, Nat.succ_mul, List.range_add, List.map_append]
      congr 1
      simp only [List.flatMap_cons, List.flatMap_nil, List.append_nil, List.map_map]
      apply List.ext_getElem
      · simp [hz]
      · intro i h1 h2
        have : i < m := by rw [hz] at h1; exact h1
        simp [Nat.mod_eq_of_lt this, Nat.add_mod, h1]
  unfold madeCells flatZ
  apply Array.toList_inj.1
  simp [key n, hz]

/-- A result: its value, the slice of the rules that are met. -/
def rc3 (x : PVal × Value) : List Value := [.int .i64 x.1.kind, .int .i64 x.1.n, x.2]
def rZero : PVal × Value := (PVal.zero, .slice none 0 0)
theorem make_values (n : Nat) (h : n ≤ 1000) (w : World) : (Instr.makeSlice 47 (.int .i64 (n : Int)) (.int .i64 (n : Int))).run Tryz.prog w = .ok (.slice (some ⟨w.heap.size, 0, none⟩) n n) (w.alloc (.cells (flatZ vcells PVal.zero [] n).toArray 51)) := by
  obtain ⟨i, hi, hz, hs, hb⟩ := info_parts Tryz.info_value
  have hr := run_make (P := Tryz.prog) w 47 51 i _ Tryz.underlying47 hi hz .i64 .i64 n n (by omega) (Int.le_refl _) (by rw [hb]; omega) (by omega)
  have hm := made_flat vcells PVal.zero 2 (by omega) rfl n
  simp only [Int.toNat_natCast, hs] at hr
  rw [hr, ← hm]
  rfl
theorem make_results (n : Nat) (h : n ≤ 1000) (w : World) : (Instr.makeSlice 125 (.int .i64 (n : Int)) (.int .i64 (n : Int))).run Tryz.prog w = .ok (.slice (some ⟨w.heap.size, 0, none⟩) n n) (w.alloc (.cells (flatZ rc3 rZero [] n).toArray 128)) := by
  obtain ⟨i, hi, hz, hs, hb⟩ := info_parts Tryz.info_result
  have hr := run_make (P := Tryz.prog) w 125 128 i _ Tryz.underlying125 hi hz .i64 .i64 n n (by omega) (Int.le_refl _) (by rw [hb]; omega) (by omega)
  have hm := made_flat rc3 rZero 3 (by omega) rfl n
  simp only [Int.toNat_natCast, hs] at hr
  rw [hr, ← hm]
  rfl
end Go.Proofs.YthnggjaecngbiaaGreatDoor

namespace Go.Proofs.YthnggjaecngbiaaGreatDoor
open Go.RowKit

set_option maxRecDepth 100000 in
set_option maxHeartbeats 3200000 in
theorem fits_any (v : Value) (xs : List LItem) (vl : Value) (vals : List Int) (w : World) (hit : ItemsV w v xs) (hlen : xs.length ≤ 12) (hvl : SlAt w 1 vl vals.length (ints vals)) :
    Calls Tryz.prog 43 #[v, vl] w fun e w' => e = .returned (.bool (fitsP (xs.map LItem.it) vals)) ∧ Below w.heap.size w w' := by
  obtain ⟨io, ic, rfl⟩ := hit.1.form
  obtain ⟨vo, vc, rfl⟩ := hvl.form
  have HI := hide hit
  have HV := hide hvl
  clear hit hvl
  go_enter Tryz.func43, Tryz.ntmps43
  go_wp2_with fail
  go_loopg [5, 10] xs.length (fun g n i wr => ∃ j : Nat, j ≤ xs.length ∧ g = xs.length - j ∧ i = .int .i64 (j : Int) ∧ n = .int .i64 (inputsTo (xs.map LItem.it) j : Int) ∧ Below w.heap.size w wr)
  case atStart => exact ⟨0, by omega, rfl, rfl, by simp [inputsTo], Below.refl _ _⟩
  case round =>
    obtain ⟨j, hj, hg, rfl, rfl, hb⟩ := hrel
    have A : Aside (gk = xs.length - j ∧ Below w.heap.size w wr) := ⟨hg, hb⟩
    have hile := inputsTo_le (xs.map LItem.it) j
    clear hg
    by_cases hlt : j < xs.length
    · rcases (unhide HI).1 with ⟨h0, _⟩ | ⟨g, cap', hv, hc, hm, hgl, hx⟩
      · omega
      simp only [Value.slice.injEq] at hv
      obtain ⟨rfl, _, rfl⟩ := hv
      have key : ∀ i, i < 7 → wr.cell? ⟨g, j * 7 + i, none⟩ = (itCells xs[j])[i]? := fun i hi => by
        rw [hb.cell (p := ⟨g, j * 7 + i, none⟩) hgl, hx _ (by omega)]
        exact flat_at itCells 7 (fun _ => rfl) xs j i hlt hi
      have k0 := key 0 (by omega)
      have k1 := key 1 (by omega)
      have k2 := key 2 (by omega)
      have k3 := key 3 (by omega)
      have k4 := key 4 (by omega)
      have k5 := key 5 (by omega)
      have k6 := key 6 (by omega)
      simp only [itCells, icells, List.getElem?_cons_zero, List.getElem?_cons_succ, Nat.add_zero] at k0 k1 k2 k3 k4 k5 k6
      have hji : j < (xs.map LItem.it).length := by simpa using hlt
      have hxe : (xs.map LItem.it)[j] = xs[j].it := by simp
      have hjc : (j : Int) < xs.length := by omega
      have his := inputsTo_succ hji
      rw [hxe] at his
      have hxi := (unhide HI).2 xs[j] (List.getElem_mem hlt)
      generalize xs[j] = x at *
      obtain ⟨co, cc, hcv⟩ := hxi.1.form
      obtain ⟨ro, rc, hrv⟩ := hxi.2.2.1.form
      obtain ⟨⟨nm, bT, mk, po, cs, dr, rl⟩, cv, rv0, zv⟩ := x
      simp only at k0 k1 k2 k3 k4 k5 k6 hcv hrv his
      subst hcv hrv
      have HIS := hide his
      clear key hx hc hm hgl hb hxi hxe his
      cases bT with
      | true =>
        go_wp2_with fail
        go_roundg (xs.length - (j + 1))
        case measure => have := A.out.1; omega
        case rel => exact ⟨j + 1, by omega, rfl, by go_num, by rw [unhide HIS]; rfl, A.out.2.alloc (A.out.2.size) _⟩
      | false =>
        go_wp2_with fail
        go_roundg (xs.length - (j + 1))
        case measure => have := A.out.1; omega
        case rel => exact ⟨j + 1, by omega, rfl, by go_num, by rw [unhide HIS]; simp, A.out.2.alloc (A.out.2.size) _⟩
    · have hje : j = xs.length := by omega
      have hjc : ¬ (j : Int) < xs.length := by omega
      have hinp : inputsTo (xs.map LItem.it) j = inputsP (xs.map LItem.it) := by unfold inputsP; rw [hje]; simp
      rw [hinp] at *
      by_cases heq : vals.length = inputsP (xs.map LItem.it)
      · have heqb : ((vals.length : Int) == (inputsP (xs.map LItem.it) : Int)) = true := by simp; omega
        have HFI : Hid (fitsP (xs.map LItem.it) vals = !(vals.any numBeyond)) := hide (by unfold fitsP; simp [heq])
        have HVr := hide ((unhide HV).below hb)
        have hv12 : vals.length ≤ 100000 := by
          rw [heq]
          have := inputsTo_le (xs.map LItem.it) (xs.map LItem.it).length
          unfold inputsP
          rw [List.length_map] at this ⊢
          omega
        clear hje hb heq hinp
        go_wp2_with fail
        refine (containsInts_any _ _ _ (unhide HVr) hv12).mono ?_
        rintro e w2 ⟨rfl, hb2⟩
        have HB2 := hide (below_after A.out.2 hb2)
        clear hb2
        go_wp2
        go_ret
        exact ⟨ret_bool (unhide HFI).symm, unhide HB2⟩
      · have heqb : ((vals.length : Int) == (inputsP (xs.map LItem.it) : Int)) = false := by simp; omega
        have HFI : Hid (fitsP (xs.map LItem.it) vals = false) := hide (by unfold fitsP; simp [heq])
        clear hje hb heq hinp
        go_wp2_with fail
        go_ret
        exact ⟨ret_bool (unhide HFI).symm, A.out.2⟩

set_option maxHeartbeats 400000 in
theorem isSet_any (n : Int) (w : World) :
    Calls Tryz.prog 42 #[.int .i64 n] w fun e w' => e = .returned (.bool (decide (0 ≤ n ∧ n ≤ 7))) ∧ Below w.heap.size w w' := by
  by_cases h1 : 0 ≤ n
  · go_enter Tryz.func42, Tryz.ntmps42
    go_wp2
    go_ret
    refine ⟨ret_bool ?_, Below.refl _ _⟩
    rw [Bool.eq_iff_iff]
    simp
    omega
  · go_enter Tryz.func42, Tryz.ntmps42
    go_wp2
    go_ret
    refine ⟨ret_bool ?_, Below.refl _ _⟩
    rw [Bool.eq_iff_iff]
    simp
    omega
end Go.Proofs.YthnggjaecngbiaaGreatDoor

