import Derived.Test.YtdgbmcbkbkbdoaaGreatDoorEvD
namespace Go.Proofs.YtdgbmcbkbkbdoaaGreatDoor
open Go.RowKit
theorem Tryz.info_value : (Tryz.prog.info? 51).map (fun i => (i.zero, i.size, i.bytes)) = some (some (.agg #[.int .i64 0, .int .i64 0]), 2, 16) := by kernel_rfl
theorem Tryz.info_result : (Tryz.prog.info? 123).map (fun i => (i.zero, i.size, i.bytes)) = some (some (.agg #[.int .i64 0, .int .i64 0, .slice none 0 0]), 3, 40) := by kernel_rfl
def flatZ {α : Type} (f : α → List Value) (z : α) (l : List α) (n : Nat) : List Value := (l ++ List.replicate (n - l.length) z).flatMap f
theorem flat_len {α : Type} (f : α → List Value) (m : Nat) (hm : ∀ x, (f x).length = m) : ∀ l : List α, (l.flatMap f).length = l.length * m
 | [] => by simp
 | x :: l => by rw [List.flatMap_cons, List.length_append, hm, flat_len f m hm l, List.length_cons, Nat.succ_mul, Nat.add_comm]
theorem flatZ_split {α : Type} (f : α → List Value) (z : α) {l : List α} {n : Nat} (h : l.length < n) : ∃ r, flatZ f z l n = l.flatMap f ++ (f z ++ r) ∧ ∀ x, flatZ f z (l ++ [x]) n = l.flatMap f ++ (f x ++ r) := by
 refine ⟨(List.replicate (n - (l.length + 1)) z).flatMap f, ?_, fun x => ?_⟩
 ·unfold flatZ
  rw [show n - l.length = (n - (l.length + 1)) + 1 by omega, List.replicate_succ]
  simp
 ·unfold flatZ
  simp
theorem flatZ_full {α : Type} (f : α → List Value) (z : α) (l : List α) : flatZ f z l l.length = l.flatMap f := by simp [flatZ]
theorem flatZ_set2 {α : Type} (f : α → List Value) (z : α) {l : List α} {n : Nat} (h : l.length < n) (x : α) {z0 z1 a b : Value} (hm : ∀ x, (f x).length = 2) (hz : f z = [z0, z1]) (hx : f x = [a, b]) :
  ((flatZ f z l n).toArray.setIfInBounds (l.length * 2) a).setIfInBounds (l.length * 2 + 1) b = (flatZ f z (l ++ [x]) n).toArray := by
 obtain ⟨r, h1, h2⟩ := flatZ_split f z h
 have hl := flat_len f 2 hm l
 rw [h1, h2 x, hz, hx]
 apply Array.toList_inj.1
 simp only [Array.toList_setIfInBounds, List.cons_append, List.nil_append]
 rw [List.set_append_right _ _ (by omega), List.set_append_right _ _ (by omega), hl]
 simp
theorem flatZ_set3 {α : Type} (f : α → List Value) (z : α) {l : List α} {n : Nat} (h : l.length < n) (x : α) {z0 z1 z2 a b c : Value} (hm : ∀ x, (f x).length = 3) (hz : f z = [z0, z1, z2]) (hx : f x = [a, b, c]) :
  (((flatZ f z l n).toArray.setIfInBounds (l.length * 3) a).setIfInBounds (l.length * 3 + 1) b).setIfInBounds (l.length * 3 + 2) c = (flatZ f z (l ++ [x]) n).toArray := by
 obtain ⟨r, h1, h2⟩ := flatZ_split f z h
 have hl := flat_len f 3 hm l
 rw [h1, h2 x, hz, hx]
 apply Array.toList_inj.1
 simp only [Array.toList_setIfInBounds, List.cons_append, List.nil_append]
 rw [List.set_append_right _ _ (by omega), List.set_append_right _ _ (by omega), List.set_append_right _ _ (by omega), hl]
 simp
theorem flatZ_zero {α : Type} (f : α → List Value) (z : α) {l : List α} {n m : Nat} (h : l.length < n) (hm : ∀ x, (f x).length = m) (i : Nat) (hi : i < m) : (flatZ f z l n)[l.length * m + i]? = (f z)[i]? := by
 obtain ⟨r, h1, _⟩ := flatZ_split f z h
 have hl := flat_len f m hm l
 rw [h1, List.getElem?_append_right (by omega), hl, Nat.add_sub_cancel_left, List.getElem?_append_left (by rw [hm]; exact hi)]
theorem made_flat {α : Type} (f : α → List Value) (z : α) (m : Nat) (_hm : 0 < m) (hz : (f z).length = m) (n : Nat) : madeCells (f z).toArray (n * m) = (flatZ f z [] n).toArray := by
 have key : ∀ n, (List.replicate n z).flatMap f = (List.range (n * m)).map (fun i => (f z)[i % m]!) := by
  intro n
  induction n with
  | zero => simp
  | succ n ih =>
   rw [List.replicate_succ', List.flatMap_append, ih, Nat.succ_mul, List.range_add, List.map_append]
   congr 1
   simp only [List.flatMap_cons, List.flatMap_nil, List.append_nil, List.map_map]
   apply List.ext_getElem
   ·simp [hz]
   ·intro i h1 h2
    have : i < m := by rw [hz] at h1; exact h1
    simp [Nat.mod_eq_of_lt this, Nat.add_mod, h1]
 unfold madeCells flatZ
 apply Array.toList_inj.1
 simp [key n, hz]
def rc3 (x : PVal × Value) : List Value := [.int .i64 x.1.kind, .int .i64 x.1.n, x.2]
def rZero : PVal × Value := (PVal.zero, .slice none 0 0)
theorem make_values (n : Nat) (h : n ≤ 1000) (w : World) : (Instr.makeSlice 47 (.int .i64 (n : Int)) (.int .i64 (n : Int))).run Tryz.prog w = .ok (.slice (some ⟨w.heap.size, 0, none⟩) n n) (w.alloc (.cells (flatZ vcells PVal.zero [] n).toArray 51)) := by
 obtain ⟨i, hi, hz, hs, hb⟩ := info_parts Tryz.info_value
 have hr := run_make (P := Tryz.prog) w 47 51 i _ Tryz.underlying47 hi hz .i64 .i64 n n (by omega) (Int.le_refl _) (by rw [hb]; omega) (by omega)
 have hm := made_flat vcells PVal.zero 2 (by omega) rfl n
 simp only [Int.toNat_natCast, hs] at hr
 rw [hr, ← hm]
 rfl
theorem make_results (n : Nat) (h : n ≤ 1000) (w : World) : (Instr.makeSlice 120 (.int .i64 (n : Int)) (.int .i64 (n : Int))).run Tryz.prog w = .ok (.slice (some ⟨w.heap.size, 0, none⟩) n n) (w.alloc (.cells (flatZ rc3 rZero [] n).toArray 123)) := by
 obtain ⟨i, hi, hz, hs, hb⟩ := info_parts Tryz.info_result
 have hr := run_make (P := Tryz.prog) w 120 123 i _ Tryz.underlying120 hi hz .i64 .i64 n n (by omega) (Int.le_refl _) (by rw [hb]; omega) (by omega)
 have hm := made_flat rc3 rZero 3 (by omega) rfl n
 simp only [Int.toNat_natCast, hs] at hr
 rw [hr, ← hm]
 rfl
end Go.Proofs.YtdgbmcbkbkbdoaaGreatDoor
namespace Go.Proofs.YtdgbmcbkbkbdoaaGreatDoor
open Go.RowKit
set_option maxRecDepth 100000 in
set_option maxHeartbeats 3200000 in
theorem evcols_any (x : LItem) (iv0 : Value) (xs : List LItem) (rvv : Value) (rs : List (PVal × Value)) (w : World) (hx : ItemV w x) (hit : ItemsV w iv0 xs) (hrs : SlAt w 3 rvv rs.length (rs.flatMap rc3)) (hxl : xs.length ≤ 12) (_hrl : rs.length ≤ 12) (hc3 : x.it.cols.length ≤ 3) (hah : ∀ c ∈ x.it.cols, ∃ i : Nat, placeP (xs.map LItem.it) c = (i : Int) ∧ i < rs.length) :
  Calls Tryz.prog 90 #[iv x.it x.cv x.rv, iv0, rvv] w fun e w' => ∃ v, e = .returned v ∧ Below w.heap.size w w' ∧ SlAt w' 2 v x.it.cols.length ((x.it.cols.map fun c => (rs.getD (placeP (xs.map LItem.it) c).toNat rZero).1).flatMap vcells) := by
 obtain ⟨it, cv, rv0, zv⟩ := x
 obtain ⟨co, cc, hcv⟩ := hx.1.form
 obtain ⟨ro, rc, hrv⟩ := hx.2.2.1.form
 obtain ⟨io, ic, hiv⟩ := hit.1.form
 obtain ⟨so, sc, hsv⟩ := hrs.form
 simp only at hcv hrv
 subst hcv hrv hiv hsv
 simp only at hc3 hah ⊢
 obtain ⟨vf, hvf⟩ : ∃ vf : ByteArray → PVal, vf = fun c => (rs.getD (placeP (xs.map LItem.it) c).toNat rZero).1 := ⟨_, rfl⟩
 rw [← hvf]
 have HVF := hide hvf
 clear hvf
 obtain ⟨w0, hw0⟩ : ∃ w0, w0 = w.alloc (.cells (icells it (.slice co it.cols.length cc) (.slice ro it.rules.length rc)) 114) := ⟨_, rfl⟩
 have hb0 : Below w.heap.size w w0 := by rw [hw0]; exact (Below.refl _ w).alloc (Nat.le_refl _) _
 have hN0 : w0.heap[w.heap.size]? = some (.cells (icells it (.slice co it.cols.length cc) (.slice ro it.rules.length rc)) 114) := by
  rw [hw0]; exact alloc_last w _
 have HX := hide (hx.below hb0)
 have HI := hide (hit.below hb0)
 have HR := hide (hrs.below hb0)
 have HA := hide hah
 have HB0 := hide hb0
 have HN0 := hide hN0
 obtain ⟨⟨c0, c1, c2, c3, c4, c5, c6⟩, f0, f1, f2, f3, f4, f5, f6⟩ := cells7 hN0
 have hs1 : w.heap.size < w0.heap.size := lt_of_block hN0
 have hmk := make_values it.cols.length (by omega)
 have HW0 := hide hw0
 clear hx hit hrs hah hb0 hN0
 simp only [iv, icells] at hw0 ⊢
 clear c0 c1 c2 c3 c5 c6 f0 f1 f2 f3 f5 f6
 go_enter Tryz.func90, Tryz.ntmps90
 go_wp2_with fail
 rw [← hw0]
 have hsz0 : w0.heap.size = w.heap.size + 1 := by rw [hw0]; simp
 clear hw0 c4 f4 hmk
 go_loopg [17] it.cols.length (fun g i wr => ∃ j : Nat, j ≤ it.cols.length ∧ g = it.cols.length - j ∧ i = .int .i64 (j : Int) ∧ Below w0.heap.size w0 wr ∧ wr.heap[w.heap.size + 1]? = some (.cells (flatZ vcells PVal.zero ((it.cols.take j).map vf) it.cols.length).toArray 51))
 case atStart => exact ⟨0, by omega, rfl, rfl, (Below.refl _ _).alloc (Nat.le_refl _) _, by rw [← hsz0]; simpa using alloc_last w0 (.cells (flatZ vcells PVal.zero [] it.cols.length).toArray 51)⟩
 case round =>
  obtain ⟨j, hj, hg, rfl, hb, harr⟩ := hrel
  have A : Aside (gk = it.cols.length - j ∧ Below w0.heap.size w0 wr ∧ wr.heap[w.heap.size + 1]? = some (.cells (flatZ vcells PVal.zero ((it.cols.take j).map vf) it.cols.length).toArray 51)) := ⟨hg, hb, harr⟩
  clear hg
  have hnl : ((it.cols.take j).map vf).length = j := by simp; omega
  by_cases hlt : j < it.cols.length
  ·rcases (uh HX).1 with ⟨h0, _⟩ | ⟨g2, cap2, hv2, hc2, hm2, hgl2, hx2⟩
   ·simp only at h0; omega
   simp only [Value.slice.injEq] at hv2
   obtain ⟨rfl, _, rfl⟩ := hv2
   have k0 : wr.cell? ⟨g2, j, none⟩ = some (.string it.cols[j]) := by
    rw [hb.cell (p := ⟨g2, j, none⟩) hgl2, hx2 j (by simp; omega)]
    simp [hlt]
   obtain ⟨pn, hpn, hpl⟩ := uh HA it.cols[j] (List.getElem_mem hlt)
   have hns : (it.cols.take (j + 1)).map vf = (it.cols.take j).map vf ++ [vf it.cols[j]] := by
    rw [List.take_succ_eq_append_getElem hlt, List.map_append]; rfl
   have hvc : vf it.cols[j] = rs[pn].1 := by
    rw [uh HVF]; simp only; rw [hpn, Int.toNat_natCast, getD_at _ _ hpl]
   rw [hvc] at hns
   generalize it.cols[j] = col at *
   have hjc : (j : Int) < it.cols.length := by omega
   have HNS := hide hns
   have HPN := hide hpn
   have hsw : w.heap.size + 1 < wr.heap.size := lt_of_block harr
   have HIr := hide ((uh HI).below hb)
   have HRr := hide ((uh HR).below hb)
   clear hx2 hc2 hm2 hb hns hpn hvc
   go_wp2_with fail
   refine (place_any _ xs col _ (uh HIr) (by omega)).mono ?_
   rintro e w2 ⟨rfl, hb2⟩
   rw [uh HPN]
   rcases (uh HRr).below hb2 with ⟨h0, _⟩ | ⟨g3, cap3, hv3, hc3', hm3, hgl3, hx3⟩
   ·omega
   simp only [Value.slice.injEq] at hv3
   obtain ⟨rfl, _, rfl⟩ := hv3
   have l0 : w2.cell? ⟨g3, pn * 3, none⟩ = some (.int .i64 rs[pn].1.kind) := by
    rw [hx3 _ (by omega)]
    have := flat_at rc3 3 (fun _ => rfl) rs pn 0 hpl (by omega)
    rw [Nat.add_zero] at this
    rw [this]; rfl
   have l1 : w2.cell? ⟨g3, pn * 3 + 1, none⟩ = some (.int .i64 rs[pn].1.n) := by
    rw [hx3 _ (by omega)]
    have := flat_at rc3 3 (fun _ => rfl) rs pn 1 hpl (by omega)
    rw [this]; rfl
   have l2 : w2.cell? ⟨g3, pn * 3 + 2, none⟩ = some rs[pn].2 := by
    rw [hx3 _ (by omega)]
    have := flat_at rc3 3 (fun _ => rfl) rs pn 2 hpl (by omega)
    rw [this]; rfl
   generalize rs[pn] = y at *
   have harr2 := (hb2.block _ hsw).trans harr
   have e0 : w2.cell? ⟨w.heap.size + 1, j * 2, none⟩ = some (.int .i64 0) := by
    rw [(arr_cell harr2 _).1]
    have := flatZ_zero vcells PVal.zero (l := (it.cols.take j).map vf) (n := it.cols.length) (m := 2) (by omega) (fun _ => rfl) 0 (by omega)
    rw [hnl, Nat.add_zero] at this
    rw [this]; rfl
   have e1 : w2.cell? ⟨w.heap.size + 1, j * 2 + 1, none⟩ = some (.int .i64 0) := by
    rw [(arr_cell harr2 _).1]
    have := flatZ_zero vcells PVal.zero (l := (it.cols.take j).map vf) (n := it.cols.length) (m := 2) (by omega) (fun _ => rfl) 1 (by omega)
    rw [hnl] at this
    rw [this]; rfl
   have q0 := (arr_cell harr2 (j * 2)).2
   have q1 := (arr_cell harr2 (j * 2 + 1)).2
   have hsw2 : w.heap.size + 1 < w2.heap.size := lt_of_block harr2
   have hpc : (pn : Int) < rs.length := by omega
   have HSET : Hid (((w2.setCell ⟨w.heap.size + 1, j * 2, none⟩ (.int .i64 y.1.kind)).setCell ⟨w.heap.size + 1, j * 2 + 1, none⟩ (.int .i64 y.1.n)).heap[w.heap.size + 1]? = some (.cells (flatZ vcells PVal.zero ((it.cols.take j).map vf ++ [y.1]) it.cols.length).toArray 51)) := hide (by
    rw [heap_set_same (heap_set_same harr2 _)]
    have := flatZ_set2 vcells PVal.zero (l := (it.cols.take j).map vf) (n := it.cols.length) (by omega) y.1 (fun _ => rfl) rfl (a := .int .i64 y.1.kind) (b := .int .i64 y.1.n) rfl
    rw [hnl] at this
    rw [this])
   have HB2 := hide (below_after A.out.2.1 hb2)
   clear hx3 hc3' hm3 hb2 harr2 harr
   go_wp2_with fail
   go_roundg (it.cols.length - (j + 1))
   case measure => have := A.out.1; omega
   case rel =>
    refine ⟨j + 1, by omega, rfl, by go_num, ((uh HB2).setCell (p := ⟨w.heap.size + 1, j * 2, none⟩) (by simp only; omega) _).setCell (p := ⟨w.heap.size + 1, j * 2 + 1, none⟩) (by simp only; omega) _, ?_⟩
    rw [uh HNS]
    exact uh HSET
  ·have hje : j = it.cols.length := by omega
   have hjc : ¬ (j : Int) < it.cols.length := by omega
   have HSL : Hid (SlAt wr 2 (.slice (some ⟨w.heap.size + 1, 0, none⟩) it.cols.length it.cols.length) it.cols.length ((it.cols.map vf).flatMap vcells)) := hide (by
    rw [hje, List.take_length, show flatZ vcells PVal.zero (it.cols.map vf) it.cols.length = (it.cols.map vf).flatMap vcells by
     have := flatZ_full vcells PVal.zero (it.cols.map vf)
     rw [List.length_map] at this
     exact this] at harr
    exact sl_of_arr harr (Nat.le_refl _) (by unfold maxLen; omega))
   clear hje hb harr hnl
   go_wp2
   go_ret
   have hsl := uh HSL
   exact ⟨_, rfl, below_after (uh HB0) A.out.2.1, hsl⟩
end Go.Proofs.YtdgbmcbkbkbdoaaGreatDoor
namespace Go.Proofs.YtdgbmcbkbkbdoaaGreatDoor
open Go.RowKit
def ResV (base : Nat) (w : World) (rs : List (PVal × Value)) (ps : List (PVal × List Nat)) : Prop :=
 rs.length = ps.length ∧ ∀ x ∈ rs.zip ps, x.1.1 = x.2.1 ∧ w.ownsRow base 3 1 x.1.2 x.2.2.length (nats x.2.2)
theorem ResV.below {base : Nat} {w w' : World} {rs : List (PVal × Value)} {ps : List (PVal × List Nat)} (h : ResV base w rs ps) (g : Below w.heap.size w w') : ResV base w' rs ps :=
 ⟨h.1, fun x hx => ⟨(h.2 x hx).1, owns_below (h.2 x hx).2 g⟩⟩
theorem ResV.set {base : Nat} {w : World} {rs : List (PVal × Value)} {ps : List (PVal × List Nat)} {N : Nat} {c : Array Value} {T : TypeId} (h : ResV base w rs ps) (hN : w.heap[N]? = some (.cells c T)) (hne : 3 ≠ T) (i : Nat) (v : Value) : ResV base (w.setCell ⟨N, i, none⟩ v) rs ps :=
 ⟨h.1, fun x hx => ⟨(h.2 x hx).1, owns_keep (h.2 x hx).2 (fun gg c' _ hg => set_keep hN hne gg c' hg)⟩⟩
theorem ResV.push {base : Nat} {w : World} {rs : List (PVal × Value)} {ps : List (PVal × List Nat)} (h : ResV base w rs ps) (p : PVal × List Nat) (v : Value) (hv : w.ownsRow base 3 1 v p.2.length (nats p.2)) : ResV base w (rs ++ [(p.1, v)]) (ps ++ [p]) := by
 refine ⟨by simp [h.1], fun x hx => ?_⟩
 rw [List.zip_append h.1, List.mem_append] at hx
 rcases hx with hx | hx
 ·exact h.2 x hx
 ·simp at hx; subst hx; exact ⟨rfl, hv⟩
theorem ResV.get {base : Nat} {w : World} {rs : List (PVal × Value)} {ps : List (PVal × List Nat)} (h : ResV base w rs ps) {i : Nat} (h1 : i < rs.length) (h2 : i < ps.length) : rs[i].1 = ps[i].1 ∧ w.ownsRow base 3 1 rs[i].2 ps[i].2.length (nats ps[i].2) := by
 have hz : i < (rs.zip ps).length := by simp; omega
 have := h.2 (rs.zip ps)[i] (List.getElem_mem hz)
 rw [List.getElem_zip] at this
 exact this
theorem ResV.fst {base : Nat} {w : World} {rs : List (PVal × Value)} {ps : List (PVal × List Nat)} (h : ResV base w rs ps) (n i : Nat) : ((rs ++ List.replicate n rZero).getD i rZero).1 = (ps.map Prod.fst).getD i PVal.zero := by
 by_cases hi : i < rs.length
 ·have h2 : i < ps.length := by have := h.1; omega
  rw [List.getD_eq_getElem?_getD, List.getElem?_append_left hi, List.getElem?_eq_getElem hi, getD_at _ _ (by simpa using h2), List.getElem_map]
  exact (h.get hi h2).1
 ·have h2 : ¬ i < ps.length := by have := h.1; omega
  rw [List.getD_eq_getElem?_getD, List.getElem?_append_right (by omega), List.getElem?_replicate, List.getD_eq_getElem?_getD, List.getElem?_eq_none (l := ps.map Prod.fst) (by simp; omega)]
  split <;> rfl
theorem colVals_len (its : List PItem) (vs : List PVal) (it : PItem) : (colVals its vs it).length = it.cols.length := by simp [colVals]
theorem res_cells {w : World} {g : Nat} {rs : List (PVal × Value)} {j n : Nat} {T : TypeId} (h : w.heap[g]? = some (.cells (flatZ rc3 rZero rs n).toArray T)) (hr : rs.length = j) (hj : j < n) :
  (w.cell? ⟨g, j * 3, none⟩ = some (.int .i64 0) ∧ w.cell? ⟨g, j * 3 + 1, none⟩ = some (.int .i64 0) ∧ w.cell? ⟨g, j * 3 + 2, none⟩ = some (.slice none 0 0)) ∧ w.frozen? ⟨g, j * 3, none⟩ = false ∧ w.frozen? ⟨g, j * 3 + 1, none⟩ = false ∧ w.frozen? ⟨g, j * 3 + 2, none⟩ = false ∧ g < w.heap.size := by
 subst hr
 have key := fun i hi => flatZ_zero rc3 rZero (l := rs) (n := n) (m := 3) hj (fun _ => rfl) i hi
 refine ⟨⟨?_, ?_, ?_⟩, (arr_cell h _).2, (arr_cell h _).2, (arr_cell h _).2, lt_of_block h⟩
 ·rw [(arr_cell h _).1]; have := key 0 (by omega); rw [Nat.add_zero] at this; rw [this]; rfl
 ·rw [(arr_cell h _).1, key 1 (by omega)]; rfl
 ·rw [(arr_cell h _).1, key 2 (by omega)]; rfl
theorem res_set {w : World} {g : Nat} {rs : List (PVal × Value)} {j n : Nat} {T : TypeId} (h : w.heap[g]? = some (.cells (flatZ rc3 rZero rs n).toArray T)) (hr : rs.length = j) (hj : j < n) (p : PVal) (v : Value) :
  (((w.setCell ⟨g, j * 3, none⟩ (.int .i64 p.kind)).setCell ⟨g, j * 3 + 1, none⟩ (.int .i64 p.n)).setCell ⟨g, j * 3 + 2, none⟩ v).heap[g]? = some (.cells (flatZ rc3 rZero (rs ++ [(p, v)]) n).toArray T) := by
 subst hr
 rw [heap_set_same (heap_set_same (heap_set_same h _) _)]
 rw [flatZ_set3 rc3 rZero (l := rs) (n := n) hj (p, v) (fun _ => rfl) rfl (a := .int .i64 p.kind) (b := .int .i64 p.n) (c := v) rfl]
theorem res_step {base : Nat} {w0 w : World} {g : Nat} {rs : List (PVal × Value)} {ps : List (PVal × List Nat)} {j n : Nat} (hg : w0.heap.size ≤ g) (hb : Below w0.heap.size w0 w) (hres : ResV base w rs ps) (h : w.heap[g]? = some (.cells (flatZ rc3 rZero rs n).toArray 123)) (hr : rs.length = j) (hj : j < n) (p : PVal × List Nat) (v : Value) (hv : w.ownsRow base 3 1 v p.2.length (nats p.2)) {w' : World}
  (hw' : w' = ((w.setCell ⟨g, j * 3, none⟩ (.int .i64 p.1.kind)).setCell ⟨g, j * 3 + 1, none⟩ (.int .i64 p.1.n)).setCell ⟨g, j * 3 + 2, none⟩ v) :
  Below w0.heap.size w0 w' ∧ ResV base w' (rs ++ [(p.1, v)]) (ps ++ [p]) ∧ w'.heap[g]? = some (.cells (flatZ rc3 rZero (rs ++ [(p.1, v)]) n).toArray 123) := by
 subst hw'
 refine ⟨((hb.setCell (p := ⟨g, j * 3, none⟩) hg _).setCell (p := ⟨g, j * 3 + 1, none⟩) hg _).setCell (p := ⟨g, j * 3 + 2, none⟩) hg _, ?_, res_set h hr hj p.1 v⟩
 have h1 := hres.push p v hv
 have h2 := h1.set h (by decide) (j * 3) (.int .i64 p.1.kind)
 have h3 := h2.set (heap_set_same h _) (by decide) (j * 3 + 1) (.int .i64 p.1.n)
 exact h3.set (heap_set_same (heap_set_same h _) _) (by decide) (j * 3 + 2) v
set_option maxRecDepth 100000 in
set_option maxHeartbeats 3200000 in
theorem evitems_any (v : Value) (xs : List LItem) (vl : Value) (vals : List Int) (w : World) (hit : ItemsV w v xs) (ok : OkPlan (xs.map LItem.it)) (hwf : ∀ x ∈ xs, WfI x.it) (hvl : SlAt w 1 vl vals.length (ints vals)) (hin : vals.length = inputsP (xs.map LItem.it)) :
  Calls Tryz.prog 60 #[v, vl] w fun e w' => ∃ rv rs, e = .returned rv ∧ Below w.heap.size w w' ∧ ResV w.heap.size w' rs (resP (xs.map LItem.it) vals) ∧ w'.ownsRow w.heap.size 123 3 rv rs.length (rs.flatMap rc3) := by
 obtain ⟨io, ic, rfl⟩ := hit.1.form
 obtain ⟨vo, vc, rfl⟩ := hvl.form
 have hlen : xs.length ≤ 12 := by have := ok.len; simpa using this
 have hmk := make_results xs.length (by omega)
 have HI := hide hit
 have HK := hide ok
 have HW := hide hwf
 have HV := hide hvl
 have HN := hide hin
 clear hit ok hwf hvl hin
 obtain ⟨its, hits⟩ : ∃ its, its = xs.map LItem.it := ⟨_, rfl⟩
 rw [← hits] at HK HN ⊢
 have HITS := hide hits
 have hitl : its.length = xs.length := by rw [hits]; simp
 have HITL := hide hitl
 clear hits hitl
 go_enter Tryz.func60, Tryz.ntmps60
 go_wp2_with fail
 go_loopg [6, 14] xs.length (fun g n i wr => ∃ (j : Nat) (rs : List (PVal × Value)), j ≤ xs.length ∧ g = xs.length - j ∧ i = .int .i64 (j : Int) ∧ n = .int .i64 (inputsTo its j : Int) ∧ Below w.heap.size w wr ∧ ResV w.heap.size wr rs (resTo its vals j) ∧ wr.heap[w.heap.size]? = some (.cells (flatZ rc3 rZero rs xs.length).toArray 123))
 case atStart => exact ⟨0, [], by omega, rfl, rfl, by simp [inputsTo], (Below.refl _ _).alloc (Nat.le_refl _) _, ⟨rfl, by simp⟩, alloc_last w _⟩
 case round =>
  obtain ⟨j, rs, hj, hg, rfl, rfl, hb, hres, harr⟩ := hrel
  have hrl : rs.length = j := by rw [hres.1, resTo_len]
  have A : Aside (gk = xs.length - j ∧ Below w.heap.size w wr ∧ ResV w.heap.size wr rs (resTo its vals j) ∧ wr.heap[w.heap.size]? = some (.cells (flatZ rc3 rZero rs xs.length).toArray 123)) := ⟨hg, hb, hres, harr⟩
  have hile := inputsTo_le its j
  have HRL := hide hrl
  clear hg hres hrl
  by_cases hlt : j < xs.length
  ·rcases (uh HI).1 with ⟨h0, _⟩ | ⟨g, cap', hv, hc, hm, hgl, hx⟩
   ·omega
   simp only [Value.slice.injEq] at hv
   obtain ⟨rfl, _, rfl⟩ := hv
   have key : ∀ i, i < 7 → wr.cell? ⟨g, j * 7 + i, none⟩ = (itCells xs[j])[i]? := fun i hi => by
    rw [hb.cell (p := ⟨g, j * 7 + i, none⟩) hgl, hx _ (by omega)]
    exact flat_at itCells 7 (fun _ => rfl) xs j i hlt hi
   have k0 := key 0 (by omega)
   have k1 := key 1 (by omega)
   have k2 := key 2 (by omega)
   have k3 := key 3 (by omega)
   have k4 := key 4 (by omega)
   have k5 := key 5 (by omega)
   have k6 := key 6 (by omega)
   simp only [itCells, icells, List.getElem?_cons_zero, List.getElem?_cons_succ, Nat.add_zero] at k0 k1 k2 k3 k4 k5 k6
   have hji : j < its.length := by rw [uh HITL]; exact hlt
   have hxe : its[j] = xs[j].it := by
    have : its[j]? = (xs.map LItem.it)[j]? := by rw [uh HITS]
    rw [List.getElem?_eq_getElem hji, List.getElem?_map, List.getElem?_eq_getElem hlt] at this
    simpa using this
   have hrs := resTo_succ vals hji
   have his := inputsTo_succ hji
   have hah := (uh HK).ahead j hji
   have hmem : its[j] ∈ its := List.getElem_mem hji
   have hcl := (uh HK).clen _ hmem
   have hrl8 := (uh HK).rlen _ hmem
   have hnum := (uh HK).num _ hmem
   have hwid := (uh HK).width _ hmem
   have hmono := inputsTo_mono its (i := j + 1) (j := its.length) (by omega)
   rw [hxe] at hrs his hah hcl hrl8 hnum hwid
   have hxi := (uh HI).2 xs[j] (List.getElem_mem hlt)
   have hwx := uh HW xs[j] (List.getElem_mem hlt)
   have hjc : (j : Int) < xs.length := by omega
   generalize xs[j] = x at *
   obtain ⟨co, cc, hcv⟩ := hxi.1.form
   obtain ⟨ro, rc, hrv⟩ := hxi.2.2.1.form
   obtain ⟨⟨nm, bT, mk, po, cs, dr, rl⟩, cv, rv0, zv⟩ := x
   simp only at k0 k1 k2 k3 k4 k5 k6 hcv hrv hrs his hah hcl hrl8 hnum hwid hwx
   subst hcv hrv
   have hb1 : Below wr.heap.size wr (wr.alloc (.cells #[.string nm, .bool bT, .int .i64 (mk : Int), .int .u8 po, .slice co cs.length cc, .int .i64 (dr : Int), .slice ro rl.length rc] 114)) := (Below.refl _ wr).alloc (Nat.le_refl _) _
   have hNi := alloc_last wr (.cells #[.string nm, .bool bT, .int .i64 (mk : Int), .int .u8 po, .slice co cs.length cc, .int .i64 (dr : Int), .slice ro rl.length rc] 114)
   have HX := hide ((hxi.below hb).below hb1)
   have HB1 := hide (below_after hb hb1)
   have HAH := hide hah
   have HNUM := hide hnum
   have HWID := hide hwid
   have HWX := hide hwx
   have HRST := hide hrs
   have HRS := hide (A.out.2.2.1.below hb1)
   have harr1 := (hb1.block _ (lt_of_block harr)).trans harr
   have HARR := hide harr1
   have HNI := hide hNi
   have hra : rs.length ≤ xs.length := by rw [uh HRL]; exact hj
   clear key hx hc hm hgl hb1 hah hnum hwid hwx hxi hNi hxe hmem harr1
   cases bT with
   | true =>
    have hpad : (rs ++ List.replicate (xs.length - rs.length) rZero).length = xs.length := by simp; omega
    have HPAD : Hid (SlAt (wr.alloc (.cells #[.string nm, .bool true, .int .i64 (mk : Int), .int .u8 po, .slice co cs.length cc, .int .i64 (dr : Int), .slice ro rl.length rc] 114)) 3 (.slice (some ⟨w.heap.size, 0, none⟩) xs.length xs.length) (rs ++ List.replicate (xs.length - rs.length) rZero).length ((rs ++ List.replicate (xs.length - rs.length) rZero).flatMap rc3)) := hide (by
     rw [hpad]
     exact sl_of_arr (uh HARR) (Nat.le_refl _) (by unfold maxLen; omega))
    have HIr := hide ((uh HI).below (uh HB1))
    have HAH2 : Hid (∀ c ∈ cs, ∃ i : Nat, placeP (xs.map LItem.it) c = (i : Int) ∧ i < (rs ++ List.replicate (xs.length - rs.length) rZero).length) := hide (fun c hc => by
     obtain ⟨i, h1, h2⟩ := uh HAH c hc
     rw [uh HITS] at h1
     exact ⟨i, h1, by rw [hpad]; omega⟩)
    have hpl : (rs ++ List.replicate (xs.length - rs.length) rZero).length ≤ 12 := by rw [hpad]; exact hlen
    have HCV : Hid ((cs.map fun c => ((rs ++ List.replicate (xs.length - rs.length) rZero).getD (placeP (xs.map LItem.it) c).toNat rZero).1) = colVals its ((resTo its vals j).map Prod.fst) ⟨nm, true, mk, po, cs, dr, rl⟩) := hide (by
     unfold colVals
     simp only
     refine List.map_congr_left fun c _ => ?_
     rw [A.out.2.2.1.fst, uh HITS])
    clear hb harr hpad
    go_wp2_with fail
    go_region_with (first
     | (go_at_call 90; refine (evcols_any ⟨⟨nm, true, mk, po, cs, dr, rl⟩, .slice co cs.length cc, .slice ro rl.length rc, zv⟩ _ xs _ (rs ++ List.replicate (xs.length - rs.length) rZero) _ (by exact uh HX) (by exact uh HIr) (by exact uh HPAD) hlen hpl hcl (by exact uh HAH2)).mono ?_; rintro e w2 ⟨cvv, rfl, hb2, hcs⟩; simp only at hcs; rw [uh HCV] at hcs; have HCS := hide hcs; have HB2 := hide (below_of_drew hb2); obtain ⟨⟨c0, c1, c2, c3, c4, c5, c6⟩, f0, f1, f2, f3, f4, f5, f6⟩ := cells7 (((below_of_drew hb2).block _ (lt_of_block (uh HNI))).trans (uh HNI)); have hsw2 := lt_of_block (((below_of_drew hb2).block _ (lt_of_block (uh HNI))).trans (uh HNI)); clear hcs hb2)
     | (go_at_call 89; refine (evtable_any ⟨⟨nm, true, mk, po, cs, dr, rl⟩, .slice co cs.length cc, .slice ro rl.length rc, zv⟩ _ (colVals its ((resTo its vals j).map Prod.fst) ⟨nm, true, mk, po, cs, dr, rl⟩) _ (by exact (uh HX).below (uh HB2)) (by exact uh HWX) (by exact uh HWID) (by exact uh HNUM) (by rw [colVals_len]; exact uh HCS) (by rw [colVals_len]) hrl8 hcl).mono ?_; rintro e w3 ⟨mv, rfl, hb3, ho3⟩; obtain ⟨mo, mc, hmv⟩ := (SlAt.of_owns ho3).form; subst hmv; have HO3 := hide ho3; have HB3 := hide (below_after (uh HB2) hb3); obtain ⟨⟨e0, e1, e2⟩, q0, q1, q2, hsw3⟩ := res_cells (j := j) (n := xs.length) (((below_after (uh HB2) hb3).block _ (lt_of_block (uh HARR))).trans (uh HARR)) (uh HRL) hlt; clear ho3 hb3))
    all_goals
     obtain ⟨r1, r2, r3⟩ := res_step (g := w.heap.size) (j := j) (n := xs.length) (Nat.le_refl _) (below_after (uh HB1) (uh HB3)) ((uh HRS).below (uh HB3)) (((uh HB3).block _ (lt_of_block (uh HARR))).trans (uh HARR)) (uh HRL) hlt (tableP ⟨nm, true, mk, po, cs, dr, rl⟩ (colVals its ((resTo its vals j).map Prod.fst) ⟨nm, true, mk, po, cs, dr, rl⟩)) _ (owns_base (uh HO3) (below_after (uh HB1) (uh HB2)).size) rfl
     have R1 := hide r1
     have R2 := hide r2
     have R3 := hide r3
     clear r1 r2 r3
     go_wp2
     go_roundg (xs.length - (j + 1))
     case measure => have := A.out.1; omega
     case rel =>
      refine ⟨j + 1, _, by omega, rfl, by go_num, by rw [his]; rfl, uh R1, ?_, uh R3⟩
      rw [uh HRST]
      exact uh R2
   | false =>
    have hic : inputsTo its j < vals.length := by
     rw [uh HN]
     unfold inputsP
     simp only [Bool.false_eq_true, if_false] at his
     omega
    rcases (uh HV) with ⟨h0, _⟩ | ⟨g2, cap2, hv2, hc2, hm2, hgl2, hx2⟩
    ·omega
    simp only [Value.slice.injEq] at hv2
    obtain ⟨rfl, _, rfl⟩ := hv2
    have i0 : wr.cell? ⟨g2, inputsTo its j, none⟩ = some (.int .i64 vals[inputsTo its j]) := by
     rw [hb.cell (p := ⟨g2, inputsTo its j, none⟩) hgl2, hx2 _ (by omega)]
     simp [ints, hic]
    have i1 : (wr.alloc (.cells #[.string nm, .bool false, .int .i64 (mk : Int), .int .u8 po, .slice co cs.length cc, .int .i64 (dr : Int), .slice ro rl.length rc] 114)).cell? ⟨g2, inputsTo its j, none⟩ = some (.int .i64 vals[inputsTo its j]) := by
     rw [← i0]
     exact ((Below.refl _ wr).alloc (Nat.le_refl _) _).cell (p := ⟨g2, inputsTo its j, none⟩) (Nat.lt_of_lt_of_le hgl2 hb.size)
    have hicc : ((inputsTo its j : Nat) : Int) < vals.length := by omega
    have HGET : Hid (vals.getD (inputsTo its j) 0 = vals[inputsTo its j]) := hide (getD_at _ _ hic)
    generalize vals[inputsTo its j] = x at *
    have hsw := lt_of_block harr
    clear hb harr hx2 hc2 hm2 i0
    go_wp2_with fail
    refine (evnum_any _ _).mono ?_
    rintro e w2 ⟨rfl, hb2⟩
    obtain ⟨⟨e0, e1, e2⟩, q0, q1, q2, hsw3⟩ := res_cells (j := j) (n := xs.length) ((hb2.block _ (lt_of_block (uh HARR))).trans (uh HARR)) (uh HRL) hlt
    obtain ⟨r1, r2, r3⟩ := res_step (g := w.heap.size) (j := j) (n := xs.length) (Nat.le_refl _) (below_after (uh HB1) hb2) ((uh HRS).below hb2) ((hb2.block _ (lt_of_block (uh HARR))).trans (uh HARR)) (uh HRL) hlt (⟨0, x⟩, []) (.slice none 0 0) (World.ownsRow_nil _ _ _ _) rfl
    have R1 := hide r1
    have R2 := hide r2
    have R3 := hide r3
    clear hb2 r1 r2 r3
    go_wp2
    go_roundg (xs.length - (j + 1))
    case measure => have := A.out.1; omega
    case rel =>
     refine ⟨j + 1, _, by omega, rfl, by go_num, by rw [his]; simp, uh R1, ?_, uh R3⟩
     rw [uh HRST]
     simp only [Bool.false_eq_true, if_false]
     rw [uh HGET]
     exact uh R2
  ·have hje : j = xs.length := by omega
   have hjc : ¬ (j : Int) < xs.length := by omega
   have HSL : Hid (wr.ownsRow w.heap.size 123 3 (.slice (some ⟨w.heap.size, 0, none⟩) xs.length xs.length) rs.length (rs.flatMap rc3)) := hide (by
    have hr : rs.length = xs.length := by rw [uh HRL, hje]
    rw [show flatZ rc3 rZero rs xs.length = rs.flatMap rc3 by rw [← hr]; exact flatZ_full _ _ _] at harr
    rw [hr]
    exact owns_of_arr harr (Nat.le_refl _) rfl (by unfold maxLen; omega) (by rw [flat_len rc3 3 (fun _ => rfl), hr]))
   have HRES : Hid (ResV w.heap.size wr rs (resP its vals)) := hide (by
    have := A.out.2.2.1
    rw [hje, ← uh HITL] at this
    exact this)
   clear hje hb harr
   go_wp2
   go_ret
   have hsl := uh HSL
   exact ⟨_, rfl, A.out.2.1, rs, uh HRES, hsl⟩
end Go.Proofs.YtdgbmcbkbkbdoaaGreatDoor
namespace Go.Proofs.YtdgbmcbkbkbdoaaGreatDoor
open Go.RowKit
theorem tabsTo_len (its : List PItem) (rs : List (PVal × List Nat)) : ∀ j, (tabsTo its rs j).length ≤ j
 | 0 => by simp [tabsTo]
 | j + 1 => by
  have := tabsTo_len its rs j
  rw [tabsTo, List.length_append]
  split <;> simp <;> omega
set_option maxRecDepth 100000 in
set_option maxHeartbeats 3200000 in
theorem tables_any (v : Value) (xs : List LItem) (vl : Value) (vals : List Int) (w : World) (hit : ItemsV w v xs) (ok : OkPlan (xs.map LItem.it)) (hwf : ∀ x ∈ xs, WfI x.it) (hvl : SlAt w 1 vl vals.length (ints vals)) (hin : vals.length = inputsP (xs.map LItem.it)) :
  Calls Tryz.prog 42 #[v, vl] w fun e w' => ∃ tv, e = .returned tv ∧ Below w.heap.size w w' ∧ w'.ownsRow w.heap.size 51 2 tv (tabsP (xs.map LItem.it) vals).length ((tabsP (xs.map LItem.it) vals).flatMap vcells) := by
 obtain ⟨io, ic, rfl⟩ := hit.1.form
 obtain ⟨vo, vc, rfl⟩ := hvl.form
 have hlen : xs.length ≤ 12 := by have := ok.len; simpa using this
 have HI := hide hit
 have HK := hide ok
 have HW := hide hwf
 have HV := hide hvl
 have HN := hide hin
 clear hit ok hwf hvl hin
 obtain ⟨i0, hi, hz0, hz1, hz2⟩ := info_parts Tryz.info_value
 go_enter Tryz.func42, Tryz.ntmps42
 go_wp2_with fail
 refine (evitems_any _ xs _ vals _ (uh HI) (uh HK) (uh HW) (uh HV) (uh HN)).mono ?_
 rintro e w1 ⟨rv, rs, rfl, hb1, hres, hsl⟩
 replace hsl := SlAt.of_owns hsl
 obtain ⟨so, sc, rfl⟩ := hsl.form
 have HB1 := hide hb1
 have HRES := hide hres
 have HSL := hide hsl
 have hrl : rs.length = xs.length := by rw [hres.1]; unfold resP; rw [resTo_len]; simp
 clear hb1 hres hsl
 go_wp2_with fail
 obtain ⟨its, hits⟩ : ∃ its, its = xs.map LItem.it := ⟨_, rfl⟩
 have HITS := hide hits
 go_loopg [5, 12] xs.length (fun g tv i wr => ∃ j : Nat, j ≤ xs.length ∧ g = xs.length - j ∧ i = .int .i64 (j : Int) ∧ Below w1.heap.size w1 wr ∧ wr.ownsRow w1.heap.size 51 2 tv (tabsTo its (resP its vals) j).length ((tabsTo its (resP its vals) j).flatMap vcells))
 case atStart => exact ⟨0, by omega, rfl, rfl, Below.refl _ _, World.ownsRow_nil _ _ _ _⟩
 case round =>
  obtain ⟨j, hj, hg, rfl, hb, hown⟩ := hrel
  have A : Aside (gk = xs.length - j ∧ Below w1.heap.size w1 wr ∧ wr.ownsRow w1.heap.size 51 2 u5 (tabsTo its (resP its vals) j).length ((tabsTo its (resP its vals) j).flatMap vcells)) := ⟨hg, hb, hown⟩
  have htl := tabsTo_len its (resP its vals) j
  clear hg hown
  by_cases hlt : j < xs.length
  ·rcases (uh HI).1.below (uh HB1) with ⟨h0, _⟩ | ⟨g, cap', hv, hc, hm, hgl, hx⟩
   ·omega
   simp only [Value.slice.injEq] at hv
   obtain ⟨rfl, _, rfl⟩ := hv
   have k1 : wr.cell? ⟨g, j * 7 + 1, none⟩ = some (.bool xs[j].it.isT) := by
    rw [hb.cell (p := ⟨g, j * 7 + 1, none⟩) hgl, hx _ (by omega)]
    exact flat_at itCells 7 (fun _ => rfl) xs j 1 hlt (by omega)
   have hjr : j < rs.length := by omega
   rcases (uh HSL) with ⟨h0, _⟩ | ⟨g2, cap2, hv2, hc2, hm2, hgl2, hx2⟩
   ·omega
   simp only [Value.slice.injEq] at hv2
   obtain ⟨rfl, _, rfl⟩ := hv2
   have key : ∀ i, i < 3 → wr.cell? ⟨g2, j * 3 + i, none⟩ = (rc3 rs[j])[i]? := fun i hi => by
    rw [hb.cell (p := ⟨g2, j * 3 + i, none⟩) hgl2, hx2 _ (by omega)]
    exact flat_at rc3 3 (fun _ => rfl) rs j i hjr hi
   have l0 := key 0 (by omega)
   have l1 := key 1 (by omega)
   have l2 := key 2 (by omega)
   simp only [rc3, List.getElem?_cons_zero, List.getElem?_cons_succ, Nat.add_zero] at l0 l1 l2
   have hpr : j < (resP (xs.map LItem.it) vals).length := by rw [← (uh HRES).1]; exact hjr
   have hget := (uh HRES).get hjr hpr
   obtain ⟨mo, mc, hmv⟩ := (SlAt.of_owns hget.2).form
   have hts : tabsTo its (resP its vals) (j + 1) = tabsTo its (resP its vals) j ++ (if xs[j].it.isT then [rs[j].1] else []) := by
    rw [tabsTo, hits, getD_at _ _ (by simpa using hlt), getD_at _ _ hpr, hget.1]
    simp
   rw [hmv] at l2
   generalize xs[j] = x at *
   generalize rs[j] = y at *
   generalize (resP (xs.map LItem.it) vals)[j].2.length = ml at *
   obtain ⟨⟨nm, bT, mk, po, cs, dr, rl⟩, cv, rv0, zv⟩ := x
   obtain ⟨⟨y0, y1⟩, yv⟩ := y
   simp only at k1 l0 l1 l2 hts
   have hjc : (j : Int) < xs.length := by omega
   have hjd : (j : Int) < rs.length := by omega
   have HTS := hide hts
   have k1' : (wr.alloc (.cells #[.int .i64 y0, .int .i64 y1, .slice mo ml mc] 123)).cell? ⟨g, j * 7 + 1, none⟩ = some (.bool bT) := by
    rw [← k1]
    exact ((Below.refl _ wr).alloc (Nat.le_refl _) _).cell (p := ⟨g, j * 7 + 1, none⟩) (Nat.lt_of_lt_of_le hgl hb.size)
   have HOW := hide (owns_below A.out.2.2 ((Below.refl _ wr).alloc (Nat.le_refl _) (.cells #[.int .i64 y0, .int .i64 y1, .slice mo ml mc] 123)))
   have HBW := hide (hb.alloc hb.size (.cells #[.int .i64 y0, .int .i64 y1, .slice mo ml mc] 123))
   have hsz : w1.heap.size ≤ wr.heap.size := hb.size
   clear key hx hx2 hc hm hc2 hm2 hgl hgl2 hb hts hget hmv hits k1
   cases bT with
   | true =>
    go_wp2_with (at_builtin; refine wpList_append_lies _ (by rfl) _ _ _ (by rfl) w1.heap.size 51 i0 _ 2 16 Tryz.underlying47 hi hz0 hz1 hz2 rfl (by decide) u5 (tabsTo its (resP its vals) j).length ((tabsTo its (resP its vals) j).flatMap vcells) (by rfl) ((uh HOW).alloc _) ⟨wr.heap.size + 1, 0, none⟩ 1 1 [.int .i64 y0, .int .i64 y1] (by rfl) (by rfl) (World.news_of_block (cs := #[.int .i64 y0, .int .i64 y1]) (t := 51) (fr := (0, 0)) (by have := heap_alloc_new (wr.alloc (.cells #[.int .i64 y0, .int .i64 y1, .slice mo ml mc] 123)) (.cells #[.int .i64 y0, .int .i64 y1] 51); simpa using this)) (by simp [Value.oneCell']) (by decide) (by unfold maxLen; omega) (by omega) (by simp; omega) (wr.heap.size + 2) (by simp) ?_; intro gg cap w7 hown7 hgrow7 hat7 hlt7; have AB := hide (And.intro (below_grown ((uh HBW).alloc (uh HBW).size _) hgrow7 (fun q hq => ((uh HOW).lt q hq).1)) hown7); clear hown7 hgrow7 hat7 hlt7)
    go_roundg (xs.length - (j + 1))
    case measure => have := A.out.1; omega
    case rel =>
     refine ⟨j + 1, by omega, rfl, by go_num, (uh AB).1, ?_⟩
     rw [uh HTS]
     simp only [if_true, List.length_append, List.length_singleton, List.flatMap_append]
     exact (uh AB).2
   | false =>
    go_wp2_with fail
    go_roundg (xs.length - (j + 1))
    case measure => have := A.out.1; omega
    case rel =>
     refine ⟨j + 1, by omega, rfl, by go_num, uh HBW, ?_⟩
     rw [uh HTS]
     simpa using uh HOW
  ·have hje : j = xs.length := by omega
   have hjc : ¬ (j : Int) < xs.length := by omega
   have hjd : ¬ (j : Int) < rs.length := by omega
   have HO : Hid (wr.ownsRow w.heap.size 51 2 u5 (tabsP (xs.map LItem.it) vals).length ((tabsP (xs.map LItem.it) vals).flatMap vcells)) := hide (by
    have := owns_base A.out.2.2 (uh HB1).size
    rw [hje, hits] at this
    unfold tabsP
    simpa using this)
   have HB2 := hide (below_after (uh HB1) hb)
   clear hje hb hits
   go_wp2
   go_ret
   have ho := uh HO
   exact ⟨_, rfl, uh HB2, ho⟩
end Go.Proofs.YtdgbmcbkbkbdoaaGreatDoor
