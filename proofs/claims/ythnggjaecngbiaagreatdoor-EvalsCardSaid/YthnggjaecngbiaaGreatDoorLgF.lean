import Derived.Test.YthnggjaecngbiaaGreatDoorRgB
namespace Go.Proofs.YthnggjaecngbiaaGreatDoor
open Go.RowKit
def overL (l : List Value) (j : Nat) : List Value := List.replicate j (.int .i64 (-99)) ++ l.drop j
theorem overL_len {l : List Value} {j : Nat} (h : j ≤ l.length) : (overL l j).length = l.length := by simp [overL]; omega
theorem overL_set {l : List Value} {j : Nat} (h : j < l.length) : (overL l j).toArray.setIfInBounds j (.int .i64 (-99)) = (overL l (j + 1)).toArray := by
 unfold overL
 rw [List.setIfInBounds_toArray, List.set_append_right _ _ (by simp), List.replicate_succ', List.append_assoc, List.length_replicate, Nat.sub_self, List.drop_eq_getElem_cons h]
 rfl
theorem overL_at {l : List Value} {j i : Nat} (h : j ≤ i) : (overL l j)[i]? = l[i]? := by
 unfold overL
 rw [List.getElem?_append_right (by simpa using h), List.length_replicate, List.getElem?_drop]
 congr 1
 omega
theorem overL_take {l : List Value} {n j : Nat} (h : n ≤ j) : (overL l j).take n = repL (mI (-99)) n := by
 unfold overL
 rw [List.take_append_of_le_length (by simpa using h), List.take_replicate, Nat.min_eq_left h]
 simp [repL, mI]
theorem lentL_in {vals : List Int} {j : Nat} (h : j < vals.length) : (lentL vals 8)[j]? = some (.int .i64 vals[j]) := by
 unfold lentL
 rw [List.getElem?_append_left (by simpa [ints] using h)]
 simp [ints, h]
theorem lentL_out {vals : List Int} {j : Nat} (h : vals.length ≤ j) (h2 : j < vals.length + 8) : (lentL vals 8)[j]? = some (.int .i64 (-77)) := by
 unfold lentL
 rw [List.getElem?_append_right (by simpa [ints] using h), List.getElem?_replicate, if_pos (by simp [ints]; omega)]
theorem Still.more_ls {w : World} {h : Hist} (k : Still w h) {v : Value} {n : Nat} (ho : w.ownsRow 0 3 1 v n (repL (mI (-99)) n)) : Still w { h with ls := h.ls ++ [(v, n)] } :=
 ⟨k.ps, k.ns, k.vs, fun x hx => by
  rcases List.mem_append.1 hx with hx | hx
  ·exact k.ls x hx
  ·simp only [List.mem_singleton] at hx
   subst hx
   exact ho⟩
theorem owns_zero {w : World} {base : Nat} {e : TypeId} {size : Nat} {v : Value} {n : Nat} {xs : List Value} (h : w.ownsRow base e size v n xs) : w.ownsRow 0 e size v n xs := owns_base h (Nat.zero_le _)
theorem LawG.cells {w w1 : World} {g i : Nat} {rx : Nat → List Value} {h : Hist} {X F : Nat → Prop} {r : Nat → LRow} (k : LawG w g rx h X F r) (hi : i < 6) (hg : w.grownBy w1 (r i).v.ownBlock) :
  (w1.cell? ⟨g, 0, none⟩ = some (r 0).v ∧ w1.cell? ⟨g, 1, none⟩ = some (r 1).v ∧ w1.cell? ⟨g, 2, none⟩ = some (r 2).v ∧ w1.cell? ⟨g, 3, none⟩ = some (r 3).v ∧ w1.cell? ⟨g, 4, none⟩ = some (r 4).v ∧ w1.cell? ⟨g, 5, none⟩ = some (r 5).v) ∧
  w1.frozen? ⟨g, 0, none⟩ = false ∧ w1.frozen? ⟨g, 1, none⟩ = false ∧ w1.frozen? ⟨g, 2, none⟩ = false ∧ w1.frozen? ⟨g, 3, none⟩ = false ∧ w1.frozen? ⟨g, 4, none⟩ = false ∧ w1.frozen? ⟨g, 5, none⟩ = false := by
 have hb : w1.heap[g]? = some (.cells #[(r 0).v, (r 1).v, (r 2).v, (r 3).v, (r 4).v, (r 5).v] 79) := (hg.block g (lt_of_block k.1.blk) (fun e => (k.1.far i hi g e.symm).1 rfl)).trans k.1.blk
 simp [World.cell?, World.frozen?, hb]
theorem LawG.count3 {w : World} {g : Nat} {h : Hist} {X F : Nat → Prop} {r : Nat → LRow} (k : LawG w g (rowX h) h X F r) : (r 3).n = h.ls.length := by
 have := (k.1.own 3 (by omega)).1
 rw [k.2.1 3 (by omega)] at this
 simp only [rowX, wsz, List.length_map] at this
 omega
theorem rowX_ls (h : Hist) (v : Value) (n : Nat) : ∀ i, i < 6 → updX (rowX h) 3 (rowX h 3 ++ [v]) i = rowX { h with ls := h.ls ++ [(v, n)] } i := by
 intro i hi
 rcases (by omega : i = 0 ∨ i = 1 ∨ i = 2 ∨ i = 3 ∨ i = 4 ∨ i = 5) with rfl | rfl | rfl | rfl | rfl | rfl <;> simp [updX, rowX]
set_option maxRecDepth 100000 in
set_option maxHeartbeats 3200000 in
theorem whole_any (g : Nat) (h : Hist) (X : Nat → Prop) (gb gc : Nat) (lv : Value) (vals : List Int) (w : World) (k : LawAt w g h X) (ho : w.ownsRow g 3 1 (.slice (some ⟨gb, 0, none⟩) (vals.length + 8) gc) (vals.length + 8) (lentL vals 8)) (hX : X gb)
  (hl : InSl w lv vals) (hlg : vals ≠ [] → ∀ a n c, lv = .slice (some a) n c → a.block ≠ gb) (hls : (h.ls.length + 1 + (h.ls.length + 1) / 4 + 192) * 24 ≤ 281474976710656) :
  Calls Tryz.prog 83 #[.pointer (some ⟨g, 0, none⟩), .slice (some ⟨gb, 0, none⟩) (vals.length + 8) gc, lv] w fun e w' =>
   e = .returned (.bool true) ∧ LawAt w' g { h with ls := h.ls ++ [(.slice (some ⟨gb, 0, none⟩) (vals.length + 8) gc, vals.length + 8)] } (fun j => X j ∧ j ≠ gb) ∧ Below g w w' ∧ ∀ j, X j → j ≠ gb → w'.heap[j]? = w.heap[j]? := by
 obtain ⟨lo, lc, rfl⟩ := hl.form
 obtain ⟨F, r, kG⟩ := k
 obtain ⟨hol, hoo⟩ := ho
 rcases hoo with ⟨hv, _⟩ | ⟨gb', gc', cur, hv, hgg, hcur, hnc, hcm, hcs, htk⟩
 ·simp at hv
 simp only [Value.slice.injEq, Option.some.injEq, Addr.mk.injEq, and_true, true_and] at hv
 obtain ⟨rfl, rfl⟩ := hv
 rw [Nat.mul_one] at hcs htk
 have hcl : vals.length + 8 ≤ cur.toList.length := by have := Array.length_toList (xs := cur); omega
 have HK := hide kG
 have HL := hide hl
 have HTK := hide htk
 have HCUR := hide hcur
 have HGG := hide hgg
 have hmx : vals.length + 8 ≤ 9223372036854775807 := by unfold maxLen at hcm; omega
 have HLG := hide hlg
 have hgbs := lt_of_block hcur
 have HX := hide hX
 have HCM := hide hcm
 clear kG hl htk hgg hlg hol hX hcm
 go_enter Tryz.func83, Tryz.ntmps83
 go_wp2_with fail
 go_loopg [7, 8] (vals.length + 8) (fun gk ov iv wr => ∃ j : Nat, j ≤ vals.length + 8 ∧ gk = vals.length + 8 - j ∧ iv = .int .i64 (j : Int) ∧ ov = .bool true ∧ wr.heap.size = w.heap.size ∧ w.grownBy wr (some gb) ∧ wr.heap[gb]? = some (.cells (overL cur.toList j).toArray 3))
 case atStart => exact ⟨0, by omega, rfl, rfl, rfl, rfl, ⟨rfl, rfl, rfl, Nat.le_refl _, fun _ _ _ => rfl⟩, by rw [uh HCUR]; rfl⟩
 case round =>
  obtain ⟨j, hj, hg, rfl, rfl, hsz, hgr, harr⟩ := hrel
  have A : Aside (gk = vals.length + 8 - j ∧ wr.heap.size = w.heap.size ∧ w.grownBy wr (some gb) ∧ wr.heap[gb]? = some (.cells (overL cur.toList j).toArray 3)) := ⟨hg, hsz, hgr, harr⟩
  clear hg
  by_cases hlt : j < vals.length + 8
  ·obtain ⟨a0, f0⟩ := arr_cell harr j
   rw [overL_at (Nat.le_refl _)] at a0
   have hcell : cur.toList[j]? = (lentL vals 8)[j]? := by rw [← uh HTK, List.getElem?_take, if_pos hlt]
   rw [hcell] at a0
   have hgbr : gb < wr.heap.size := by omega
   have HAR : Hid ((wr.setCell ⟨gb, j, none⟩ (.int .i64 (-99))).heap[gb]? = some (.cells (overL cur.toList (j + 1)).toArray 3)) := hide (by
    rw [heap_set_same harr, overL_set (by omega)])
   have HGR : Hid (w.grownBy (wr.setCell ⟨gb, j, none⟩ (.int .i64 (-99))) (some gb)) := hide ⟨hgr.os, hgr.tape, hgr.output, by simp only [World.setCell, Array.size_modify]; exact hgr.size, fun q hq hne => by
    rw [Below.heap_setCell _ _ _ _ (fun e => hne (by rw [e]))]; exact hgr.block q hq hne⟩
   have hjn : (j : Int) < vals.length + 8 := by omega
   by_cases hin : j < vals.length
   ·rw [lentL_in hin] at a0
    rcases uh HL with ⟨h0, _⟩ | ⟨gl, off, cp, hv, hc2, hm2, hgl, hx⟩
    ·rw [h0] at hin; simp at hin
    simp only [Value.slice.injEq] at hv
    obtain ⟨rfl, _, rfl⟩ := hv
    have hne : gl ≠ gb := uh HLG (fun h0 => by rw [h0] at hin; simp at hin) ⟨gl, off, none⟩ _ _ rfl
    have l0 : wr.cell? ⟨gl, off + j, none⟩ = some (.int .i64 vals[j]) := by
     have hb2 := hgr.block gl hgl (by simpa using hne)
     rw [World.cell?_of_block (a := ⟨gl, off + j, none⟩) hb2]
     exact hx j vals[j] (by simp [hin])
    have hglr : gl < wr.heap.size := by omega
    have hjv : (j : Int) < vals.length := by omega
    generalize vals[j] = y at *
    clear hx harr hgr hcell
    go_wp2_with fail
    go_roundg (vals.length + 8 - (j + 1))
    case measure => have := A.out.1; omega
    case rel => exact ⟨j + 1, by omega, rfl, by go_num, by simp, by simp only [World.setCell, Array.size_modify]; exact hsz, uh HGR, uh HAR⟩
   ·rw [lentL_out (by omega) hlt] at a0
    have hjv : ¬ (j : Int) < vals.length := by omega
    clear harr hgr hcell
    go_wp2_with fail
    go_roundg (vals.length + 8 - (j + 1))
    case measure => have := A.out.1; omega
    case rel => exact ⟨j + 1, by omega, rfl, by go_num, by simp, by simp only [World.setCell, Array.size_modify]; exact hsz, uh HGR, uh HAR⟩
  ·have hje : j = vals.length + 8 := by omega
   subst hje
   have hn3 : (r 3).n = h.ls.length := (uh HK).count3
   obtain ⟨o3, p3, h3v⟩ := (uh HK).1.form (i := 3) (by omega)
   rw [hn3] at h3v
   have kW := (uh HK).wrote (w' := wr) (by omega) (fun q hq hx => hgr.block q hq (fun e => hx (by simp only [Option.some.injEq] at e; rw [e]; exact uh HX)))
   obtain ⟨⟨_, _, _, c3, _, _⟩, _, _, _, f3, _, _⟩ := kW.1.cells
   have hgl := lt_of_block kW.1.blk
   have o3w : wr.ownsRow g 25 1 (.slice o3 h.ls.length p3) h.ls.length (rowX h 3) := by
    have := kW.1.own 3 (by omega)
    rw [kW.2.1 3 (by omega), hn3, h3v] at this
    exact this
   rw [h3v] at c3
   obtain ⟨wA, hwA⟩ : ∃ wA, wA = wr.alloc (.cells #[.slice (some ⟨gb, 0, none⟩) (vals.length + 8) gc] 25) := ⟨_, rfl⟩
   have hbA : Below wr.heap.size wr wA := by rw [hwA]; exact (Below.refl _ wr).alloc (Nat.le_refl _) _
   have kA := kW.below hbA
   have hgA : wA.heap[gb]? = some (.cells (overL cur.toList (vals.length + 8)).toArray 3) := (hbA.block gb (by omega)).trans harr
   have HST : Hid (∀ w', wA.heap.size ≤ w'.heap.size → (∀ q, F q ∨ q = gb → w'.heap[q]? = wA.heap[q]?) → Still w' { h with ls := h.ls ++ [(.slice (some ⟨gb, 0, none⟩) (vals.length + 8) gc, vals.length + 8)] }) := hide (fun w' hs hF =>
    Still.more_ls (kA.2.2.1 w' hs (fun q hq => hF q (Or.inl hq))) ⟨by rw [repL_len]; rfl, Or.inr ⟨gb, gc, _, rfl, Nat.zero_le _, (hF gb (Or.inr rfl)).trans hgA, hnc, uh HCM, by simp only [List.size_toArray]; rw [overL_len hcl, Array.length_toList, hcs, Nat.mul_one], by rw [Nat.mul_one]; exact overL_take (Nat.le_refl _)⟩⟩)
   have HKA := hide kA
   have HO3 := hide o3w
   have H3V := hide h3v
   have HBW : Hid (Below g w wA) := hide (Below.trans ⟨hgr.os, hgr.tape, hgr.output, hgr.size, fun q hq => hgr.block q (by omega) (fun e => by simp only [Option.some.injEq] at e; have := uh HGG; omega)⟩ (hbA.mono (by omega)))
   have HXW : Hid (∀ q, X q → q ≠ gb → wA.heap[q]? = w.heap[q]?) := hide (fun q hq hne => (hbA.block q (by have := ((uh HK).2.2.2 q hq).1; omega)).trans (hgr.block q ((uh HK).2.2.2 q hq).1 (by simpa using hne)))
   have HWA := hide hwA
   have hls1 : h.ls.length + 1 ≤ maxLen := by unfold maxLen; omega
   obtain ⟨i3, hi3, y0, y1, y2⟩ := info_parts Tryz.info_ints
   have hgwr : g ≤ wr.heap.size := by omega
   clear hgr harr hgA hbA hwA kW kA o3w h3v hsz A
   go_wp2_with (at_builtin; refine wpList_append_told _ (by rfl) _ _ _ (by rfl) g 25 i3 _ 1 24 Tryz.underlying75 hi3 y0 y1 y2 rfl (by decide) (.slice o3 h.ls.length p3) h.ls.length (rowX h 3) (by rfl) ((uh HO3).alloc _) ⟨wr.heap.size, 0, none⟩ 1 1 [.slice (some ⟨gb, 0, none⟩) (vals.length + 8) gc] (by rfl) (by rfl) (World.news_of_block (cs := #[.slice (some ⟨gb, 0, none⟩) (vals.length + 8) gc]) (t := 25) (fr := (0, 0)) (heap_alloc_new wr _)) (by simp [Value.oneCell']) (by decide) hls1 hls (by simp; omega) (wr.heap.size + 1) (by simp) ?_; intro gg cap w7 hown7 hgrow7 hat7 hrow7; rw [← uh HWA] at hgrow7; rw [← uh H3V] at hgrow7 hat7; have AB := hide ((uh HKA).push (E := fun q => q = gb) (by omega) hgrow7 hown7 hat7 (by rw [uh HWA]; simp) (fun q hq => by rw [hq]; exact uh HX) (uh HST)); obtain ⟨⟨_, _, _, z3, _, _⟩, _, _, _, zf3, _, _⟩ := (uh HKA).cells (i := 3) (by omega) hgrow7; have hg7 : g < w7.heap.size := Nat.lt_of_lt_of_le (lt_of_block (uh HKA).1.blk) hgrow7.size; clear hown7 hgrow7 hat7 hrow7)
   go_ret
   obtain ⟨a1, a2, a3⟩ := uh AB
   refine ⟨rfl, a1.at (rowX_ls h _ _), (uh HBW).trans a2, fun q hq hne => (a3 q hq).trans (uh HXW q hq hne)⟩
end Go.Proofs.YthnggjaecngbiaaGreatDoor
namespace Go.Proofs.YthnggjaecngbiaaGreatDoor
open Go.RowKit
theorem owns_set {w : World} {base lb n cap size i : Nat} {e : TypeId} {ys : List Value} (h : w.ownsRow base e size (.slice (some ⟨lb, 0, none⟩) n cap) n ys) (hi : i < n * size) (v : Value) :
  w.cell? ⟨lb, i, none⟩ = ys[i]? ∧ w.frozen? ⟨lb, i, none⟩ = false ∧ (w.setCell ⟨lb, i, none⟩ v).ownsRow base e size (.slice (some ⟨lb, 0, none⟩) n cap) n (ys.set i v) := by
 rcases h with ⟨h0, hv | ⟨g, c, cur, hv, hb, hg, h1, h2, h3, h4⟩⟩
 ·simp at hv
 simp only [Value.slice.injEq, Option.some.injEq, Addr.mk.injEq, and_true, true_and] at hv
 obtain ⟨rfl, rfl⟩ := hv
 refine ⟨?_, by simp [World.frozen?, hg], by rw [List.length_set]; exact h0, Or.inr ⟨lb, cap, _, rfl, hb, cell_set6 hg, h1, h2, by simpa using h3, ?_⟩⟩
 ·rw [← h4, List.getElem?_take, if_pos hi]
  simp [World.cell?, hg]
 ·rw [← h4, Array.toList_setIfInBounds, List.take_set]
theorem set_mid {a : List Value} {x y : Value} {r : List Value} : (a ++ x :: r).set a.length y = a ++ y :: r := by
 rw [List.set_append_right _ _ (Nat.le_refl _)]
 simp
theorem repL_two {m : Int} {j : Nat} {rest : List Value} : repL (mV m) j ++ .int .i64 m :: .int .i64 m :: rest = repL (mV m) (j + 1) ++ rest := by
 rw [repL_add, List.append_assoc]
 rfl
theorem fill_set {m : Int} {j : Nat} {a b : Value} {rest : List Value} : ((repL (mV m) j ++ a :: b :: rest).set (j * 2) (.int .i64 m)).set (j * 2 + 1) (.int .i64 m) = repL (mV m) (j + 1) ++ rest := by
 have hl : (repL (mV m) j).length = j * 2 := repL_len _ _
 have h1 : (repL (mV m) j ++ a :: b :: rest).set (j * 2) (.int .i64 m) = repL (mV m) j ++ .int .i64 m :: b :: rest := by
  rw [← hl]; exact set_mid
 rw [h1]
 have h2 : repL (mV m) j ++ .int .i64 m :: b :: rest = (repL (mV m) j ++ [.int .i64 m]) ++ b :: rest := by simp
 have h3 : j * 2 + 1 = (repL (mV m) j ++ [Value.int .i64 m]).length := by simp [hl]
 rw [h2, h3, set_mid, ← repL_two]
 simp
theorem LawG.grown {w w' : World} {g : Nat} {rx : Nat → List Value} {h : Hist} {X F : Nat → Prop} {r : Nat → LRow} (k : LawG w g rx h X F r) (hs : w.heap.size ≤ w'.heap.size) (hb : ∀ j, j < w.heap.size → ¬ X j → w'.heap[j]? = w.heap[j]?) : LawG w' g rx h (fun j => X j ∨ (w.heap.size ≤ j ∧ j < w'.heap.size)) F r := by
 obtain ⟨h1, h2, h3, h4⟩ := k
 refine ⟨h1.apart hs ?_, h2, fun w'' hs2 hF => h3 w'' (Nat.le_trans hs hs2) (fun j hj => (hF j hj).trans (hb j (h1.lt j hj) (fun hx => (h4 j hx).2.1 hj))), ?_⟩
 ·rintro j hj (rfl | ⟨i, hi, he⟩)
  ·exact hb j hj (fun hx => (h4 j hx).2.2.1 rfl)
  ·exact hb j hj (fun hx => (h4 j hx).2.2.2 i hi he)
 ·rintro j (hj | ⟨hj1, hj2⟩)
  ·obtain ⟨a1, a2⟩ := h4 j hj
   exact ⟨Nat.lt_of_lt_of_le a1 hs, a2⟩
  ·refine ⟨hj2, fun hf => ?_, ?_, fun i hi hb => ?_⟩
   ·have := h1.lt j hf
    omega
   ·have := lt_of_block h1.blk
    omega
   ·have := h1.row_lt hi hb
    omega
theorem Still.more_vs {w : World} {h : Hist} (k : Still w h) (l : List (Value × Nat × Int)) (ho : ∀ x ∈ l, w.ownsRow 0 51 2 x.1 x.2.1 (repL (mV x.2.2) x.2.1)) : Still w { h with vs := h.vs ++ l } :=
 ⟨k.ps, k.ns, fun x hx => by
  rcases List.mem_append.1 hx with hx | hx
  ·exact k.vs x hx
  ·exact ho x hx, k.ls⟩
theorem rowX_vs (h : Hist) (l : List (Value × Nat × Int)) : ∀ i, i < 6 → updX (updX (rowX h) 2 (rowX h 2 ++ l.map fun x => x.1)) 5 (updX (rowX h) 2 (rowX h 2 ++ l.map fun x => x.1) 5 ++ l.map fun x => .int .i64 x.2.2) i = rowX { h with vs := h.vs ++ l } i := by
 intro i hi
 rcases (by omega : i = 0 ∨ i = 1 ∨ i = 2 ∨ i = 3 ∨ i = 4 ∨ i = 5) with rfl | rfl | rfl | rfl | rfl | rfl <;> simp [updX, rowX]
theorem LawG.count {w : World} {g : Nat} {rx : Nat → List Value} {h : Hist} {X F : Nat → Prop} {r : Nat → LRow} (k : LawG w g rx h X F r) {i : Nat} (hi : i < 6) (hz : wsz i = 1) : (r i).n = (rx i).length := by
 have := (k.1.own i hi).1
 rw [k.2.1 i hi, hz] at this
 omega
def OV (g : Nat) (h : Hist) (F : Nat → Prop) (r : Nat → LRow) (m : Int) (us : List (Value × Nat)) (W : World) : Prop :=
 ∃ X, LawG W g (rowX h) h X F r ∧ ∀ u ∈ us, W.ownsRow g 51 2 u.1 u.2 (repL (mV m) u.2) ∧ ∀ b, u.1.ownBlock = some b → X b
theorem OV.below {g : Nat} {h : Hist} {F : Nat → Prop} {r : Nat → LRow} {m : Int} {us : List (Value × Nat)} {W W' : World} (k : OV g h F r m us W) (b : Below W.heap.size W W') : OV g h F r m us W' := by
 obtain ⟨X, k1, k2⟩ := k
 exact ⟨X, k1.below b, fun u hu => ⟨owns_below (k2 u hu).1 b, (k2 u hu).2⟩⟩
theorem OV.app {g : Nat} {h : Hist} {F : Nat → Prop} {r : Nat → LRow} {m : Int} {us : List (Value × Nat)} {W w7 : World} (k : OV g h F r m us W) {l : Value} {n q gg cap H : Nat} (hl : (l, n) ∈ us)
  (hown : w7.ownsRow g 51 2 (.slice (some ⟨gg, 0, none⟩) (n + q) cap) (n + q) (repL (mV m) n ++ repL (mV m) q)) (hg : W.grownBy w7 l.ownBlock) (hat : l.ownBlock = some gg ∨ gg = H) (hH : W.heap.size = H)
  (hr : ∀ j, l.ownBlock = some j → ∀ cur, W.heap[j]? = some (.cells cur 51 (0, 0)) → n * 2 + (repL (mV m) q).length ≤ cur.size ∧ w7.heap[j]? = some (.cells (cur.toList.take (n * 2) ++ repL (mV m) q ++ cur.toList.drop (n * 2 + (repL (mV m) q).length)).toArray 51 (0, 0)) ∨ w7.heap[j]? = W.heap[j]?) :
  OV g h F r m (us ++ [(.slice (some ⟨gg, 0, none⟩) (n + q) cap, n + q)]) w7 ∧ Below g W w7 := by
 obtain ⟨X, k1, k2⟩ := k
 have kl := k2 (l, n) hl
 have hX : ∀ j, j < W.heap.size → ¬ X j → w7.heap[j]? = W.heap[j]? := fun j hj hx => hg.block j hj (fun e => hx (kl.2 j e.symm))
 have hlt : gg < w7.heap.size := (hown.lt gg rfl).2
 refine ⟨⟨_, k1.grown hg.size hX, ?_⟩, ⟨hg.os, hg.tape, hg.output, hg.size, fun j hj => hg.block j (by have := lt_of_block k1.1.blk; omega) (fun e => by have := (kl.1.lt j e.symm).1; omega)⟩⟩
 intro u hu
 rcases List.mem_append.1 hu with hu | hu
 ·refine ⟨owns_rep (c := mV m) (m := q) kl.1 (k2 u hu).1 hg hr, fun b hb => Or.inl ((k2 u hu).2 b hb)⟩
 ·simp only [List.mem_singleton] at hu
  subst hu
  refine ⟨by simp only; rw [repL_add]; exact hown, fun b hb => ?_⟩
  simp only [Value.ownBlock, Option.some.injEq] at hb
  subst hb
  rcases hat with e | e
  ·exact Or.inl (kl.2 _ e)
  ·exact Or.inr ⟨by omega, hlt⟩
theorem OV.put {g : Nat} {h : Hist} {F : Nat → Prop} {r : Nat → LRow} {m : Int} {us : List (Value × Nat)} {W w7 : World} (k : OV g h F r m us W) {gg n' cap H : Nat} (hg : W.grownBy w7 (r 2).v.ownBlock)
  (hown : w7.ownsRow g 47 1 (.slice (some ⟨gg, 0, none⟩) n' cap) n' (rowX h 2 ++ us.map fun u => u.1)) (hat : (r 2).v.ownBlock = some gg ∨ gg = H) (hH : W.heap.size = H) :
  ∃ X' F', LawG (w7.setCell ⟨g, 2, none⟩ (.slice (some ⟨gg, 0, none⟩) n' cap)) g (updX (rowX h) 2 (rowX h 2 ++ us.map fun u => u.1)) { h with vs := h.vs ++ us.map fun u => (u.1, u.2, m) } X' F' (updR r 2 ⟨.slice (some ⟨gg, 0, none⟩) n' cap, n', rowX h 2 ++ us.map fun u => u.1⟩) ∧
  Below g W (w7.setCell ⟨g, 2, none⟩ (.slice (some ⟨gg, 0, none⟩) n' cap)) := by
 obtain ⟨X, k1, k2⟩ := k
 obtain ⟨a1, a2, _⟩ := k1.push (i := 2) (E := fun j => ∃ u ∈ us, u.1.ownBlock = some j) (h' := { h with vs := h.vs ++ us.map fun u => (u.1, u.2, m) }) (by omega) hg hown hat hH (fun j ⟨u, hu, hj⟩ => (k2 u hu).2 j hj) (fun w' hs hF =>
  Still.more_vs (k1.2.2.1 w' hs (fun j hj => hF j (Or.inl hj))) _ (fun x hx => by
   obtain ⟨u, hu, rfl⟩ := List.mem_map.1 hx
   exact owns_zero (owns_same (k2 u hu).1 (fun b hb => hF b (Or.inr ⟨u, hu, hb⟩)))))
 exact ⟨_, _, a1, a2⟩
end Go.Proofs.YthnggjaecngbiaaGreatDoor
namespace Go.Proofs.YthnggjaecngbiaaGreatDoor
open Go.RowKit
set_option maxRecDepth 100000 in
theorem small_fit {n q : Nat} (hn : n ≤ 1000) (hq : q ≤ 3) : n + q ≤ maxLen ∧ (n + q + (n + q) / 4 + 192) * 16 ≤ 281474976710656 := by
 have h0 : n + q ≤ 1003 := by omega
 have h1 := Nat.div_le_self (n + q) 4
 have h2 : n + q + (n + q) / 4 + 192 ≤ 3000 := by omega
 exact ⟨Nat.le_trans h0 (by decide), Nat.le_trans (Nat.mul_le_mul_right 16 h2) (by decide)⟩
set_option maxRecDepth 100000 in
theorem big_fit {v : Nat} (h : (v + 4 + (v + 4) / 4 + 192) * 24 ≤ 281474976710656) : v + 4 ≤ maxLen ∧ (v + 4 + (v + 4) / 4 + 192) * 8 ≤ 281474976710656 ∧ v ≤ 11728124029610 := by
 have h1 : (v + 4) * 24 ≤ 281474976710656 := Nat.le_trans (Nat.mul_le_mul_right 24 (Nat.le_trans (Nat.le_add_right _ _) (Nat.le_add_right _ _))) h
 have h2 : v + 4 ≤ 11728124029610 := by
  clear h
  omega
 exact ⟨Nat.le_trans h2 (by decide), Nat.le_trans (Nat.mul_le_mul_left _ (by decide)) h, Nat.le_trans (Nat.le_add_right _ _) h2⟩
theorem OV.own {g : Nat} {h : Hist} {F : Nat → Prop} {r : Nat → LRow} {m : Int} {us : List (Value × Nat)} {W : World} (k : OV g h F r m us W) {l : Value} {n : Nat} (hl : (l, n) ∈ us) : W.ownsRow g 51 2 l n (repL (mV m) n) := by
 obtain ⟨X, _, k2⟩ := k
 exact (k2 (l, n) hl).1
theorem OV.cells {g : Nat} {h : Hist} {F : Nat → Prop} {r : Nat → LRow} {m : Int} {us : List (Value × Nat)} {W w1 : World} (k : OV g h F r m us W) {i : Nat} (hi : i < 6) (hg : W.grownBy w1 (r i).v.ownBlock) :
  w1.cell? ⟨g, 2, none⟩ = some (r 2).v ∧ w1.cell? ⟨g, 5, none⟩ = some (r 5).v ∧ w1.frozen? ⟨g, 2, none⟩ = false ∧ w1.frozen? ⟨g, 5, none⟩ = false ∧ g < w1.heap.size := by
 obtain ⟨X, k1, _⟩ := k
 obtain ⟨⟨_, _, a2, _, _, a5⟩, _, _, b2, _, _, b5⟩ := k1.cells hi hg
 exact ⟨a2, a5, b2, b5, Nat.lt_of_lt_of_le (lt_of_block k1.1.blk) hg.size⟩
theorem OV.row2 {g : Nat} {h : Hist} {F : Nat → Prop} {r : Nat → LRow} {m : Int} {us : List (Value × Nat)} {W : World} (k : OV g h F r m us W) {o : Option Addr} {n c : Nat} (hv : (r 2).v = .slice o n c) (hn : n = h.vs.length) : W.ownsRow g 47 1 (.slice o n c) n (rowX h 2) := by
 obtain ⟨X, k1, _⟩ := k
 have h1 := k1.1.own 2 (by omega)
 have h2 : (r 2).n = h.vs.length := by have := k1.count (i := 2) (by omega) rfl; simpa [rowX] using this
 rw [k1.2.1 2 (by omega), h2, hv, ← hn] at h1
 exact h1
theorem row5 {w : World} {g : Nat} {Y : List Value} {h h' : Hist} {X F : Nat → Prop} {r : Nat → LRow} {Z : LRow} (k : LawG w g (updX (rowX h) 2 Y) h' X F (updR r 2 Z)) {o : Option Addr} {n c : Nat} (hv : (r 5).v = .slice o n c) (hn : n = h.vs.length) : w.ownsRow g 3 1 (.slice o n c) n (rowX h 5) := by
 have h1 := k.1.own 5 (by omega)
 have h2 : (updR r 2 Z 5).n = h.vs.length := by
  have := k.count (i := 5) (by omega) rfl
  rw [this]
  simp [updX, rowX]
 rw [k.2.1 5 (by omega), h2] at h1
 rw [show (updR r 2 Z 5).v = (r 5).v by rw [updR_far _ _ (by omega)], hv, ← hn] at h1
 exact h1
theorem put5 {w w1 : World} {g : Nat} {l : List (Value × Nat × Int)} {h : Hist} {X F : Nat → Prop} {r : Nat → LRow} {Z : LRow} (k : LawG w g (updX (rowX h) 2 (rowX h 2 ++ l.map fun x => x.1)) { h with vs := h.vs ++ l } X F (updR r 2 Z)) {g' n' cap H : Nat} {news : List Value}
  (hg : w.grownBy w1 (r 5).v.ownBlock) (hown : w1.ownsRow g 3 1 (.slice (some ⟨g', 0, none⟩) n' cap) n' (rowX h 5 ++ news)) (hat : (r 5).v.ownBlock = some g' ∨ g' = H) (hH : w.heap.size = H) (hnews : news = l.map fun x => .int .i64 x.2.2) :
  LawAt (w1.setCell ⟨g, 5, none⟩ (.slice (some ⟨g', 0, none⟩) n' cap)) g { h with vs := h.vs ++ l } (fun _ => False) ∧ Below g w (w1.setCell ⟨g, 5, none⟩ (.slice (some ⟨g', 0, none⟩) n' cap)) := by
 have he : (updR r 2 Z 5).v = (r 5).v := by rw [updR_far _ _ (by omega)]
 have hx : updX (rowX h) 2 (rowX h 2 ++ l.map fun x => x.1) 5 = rowX h 5 := by simp [updX]
 obtain ⟨a1, a2, _⟩ := k.push (i := 5) (E := fun _ => False) (h' := { h with vs := h.vs ++ l }) (news := news) (by omega) (by rw [he]; exact hg) (by rw [hx]; exact hown) (by rw [he]; exact hat) hH (fun _ hf => hf.elim) (fun w' hs hF => k.2.2.1 w' hs (fun j hj => hF j (Or.inl hj)))
 refine ⟨LawAt.weaken (a1.at ?_) (fun _ hf => hf.elim), a2⟩
 rw [hnews]
 exact rowX_vs h l
theorem cells5L {w w1 : World} {g : Nat} {rx : Nat → List Value} {h' : Hist} {X F : Nat → Prop} {r : Nat → LRow} {Z : LRow} (k : LawG w g rx h' X F (updR r 2 Z)) (hg : w.grownBy w1 (r 5).v.ownBlock) : w1.cell? ⟨g, 5, none⟩ = some (r 5).v ∧ w1.frozen? ⟨g, 5, none⟩ = false ∧ g < w1.heap.size := by
 have he : (updR r 2 Z 5).v = (r 5).v := by rw [updR_far _ _ (by omega)]
 obtain ⟨⟨_, _, _, _, _, a5⟩, _, _, _, _, _, b5⟩ := k.cells (i := 5) (by omega) (by rw [he]; exact hg)
 rw [he] at a5
 exact ⟨a5, b5, Nat.lt_of_lt_of_le (lt_of_block k.1.blk) hg.size⟩
theorem grown_refl (w : World) (row : Option Nat) : w.grownBy w row := ⟨rfl, rfl, rfl, Nat.le_refl _, fun _ _ _ => rfl⟩
set_option maxRecDepth 100000 in
set_option maxHeartbeats 3200000 in
theorem ownValues_any (g : Nat) (h : Hist) (X : Nat → Prop) (lo : Option Addr) (n lc : Nat) (xs : List Value) (w : World) (k : LawAt w g h X) (ho : w.ownsRow g 51 2 (.slice lo n lc) n xs) (hX : ∀ b, (Value.slice lo n lc).ownBlock = some b → X b) (hn : n ≤ 1000)
  (hvs : (h.vs.length + 4 + (h.vs.length + 4) / 4 + 192) * 24 ≤ 281474976710656) :
  Calls Tryz.prog 84 #[.pointer (some ⟨g, 0, none⟩), .slice lo n lc] w fun e w' => e = .returned (.tuple #[]) ∧ Below g w w' ∧ ∃ l : List (Value × Nat × Int), l.length = 4 ∧ LawAt w' g { h with vs := h.vs ++ l } (fun _ => False) := by
 obtain ⟨F, r, kG⟩ := k
 obtain ⟨⟨_, _, _, _, _, c5⟩, _⟩ := kG.1.cells
 have hgl := lt_of_block kG.1.blk
 obtain ⟨o5, p5, h5v⟩ := kG.1.form (i := 5) (by omega)
 obtain ⟨o2, p2, h2v⟩ := kG.1.form (i := 2) (by omega)
 have hn2 : (r 2).n = h.vs.length := by have := kG.count (i := 2) (by omega) rfl; simpa [rowX] using this
 rw [hn2] at h2v
 have H2V := hide h2v
 have hn5 : (r 5).n = h.vs.length := by have := kG.count (i := 5) (by omega) rfl; simpa [rowX] using this
 rw [hn5] at h5v
 have H5V := hide h5v
 rw [h5v] at c5
 obtain ⟨m, hm⟩ : ∃ m : Int, -1 - (h.vs.length : Int) = m := ⟨_, rfl⟩
 obtain ⟨w1, hw1⟩ : ∃ w1, w1 = w.alloc (.cells #[.int .i64 m, .int .i64 m] 51) := ⟨_, rfl⟩
 have hb1 : Below w.heap.size w w1 := by rw [hw1]; exact (Below.refl _ w).alloc (Nat.le_refl _) _
 have HN1 : Hid (w1.heap[w.heap.size]? = some (.cells #[.int .i64 m, .int .i64 m] 51)) := hide (by rw [hw1]; exact alloc_last w _)
 have HK1 := hide (kG.grown hb1.size (fun j hj _ => hb1.block j hj))
 have HO1 := hide (owns_below ho hb1)
 have HB1 := hide (hb1.mono (Nat.le_of_lt hgl))
 have hbl : ∀ b, (Value.slice lo n lc).ownBlock = some b → b < w.heap.size := fun b hb => (ho.lt b hb).2
 have HBL := hide hbl
 have HX := hide hX
 have hvl : h.vs.length ≤ 11728124029610 := (big_fit hvs).2.2
 have HQ : Hid (∀ q, q ≤ 3 → n + q ≤ maxLen ∧ (n + q + (n + q) / 4 + 192) * 16 ≤ 281474976710656) := hide (fun q hq => small_fit hn hq)
 have HVS := hide hvs
 have HBF := hide (big_fit hvs)
 clear kG ho hX hb1 hbl h5v hn5 hvs h2v hn2
 go_enter Tryz.func84, Tryz.ntmps84
 go_wp2_with fail
 rw [← hw1]
 clear hw1 c5
 go_loopg [6] n (fun gk iv wr => ∃ (j : Nat) (rest : List Value), j ≤ n ∧ gk = n - j ∧ iv = .int .i64 (j : Int) ∧ wr.heap.size = w1.heap.size ∧ w1.grownBy wr (Value.slice lo n lc).ownBlock ∧ wr.ownsRow g 51 2 (.slice lo n lc) n (repL (mV m) j ++ rest))
 case atStart => exact ⟨0, xs, by omega, rfl, rfl, rfl, ⟨rfl, rfl, rfl, Nat.le_refl _, fun _ _ _ => rfl⟩, uh HO1⟩
 case round =>
  obtain ⟨j, rest, hj, hg, rfl, hsz, hgr, hown⟩ := hrel
  have A : Aside (gk = n - j ∧ wr.heap.size = w1.heap.size ∧ w1.grownBy wr (Value.slice lo n lc).ownBlock ∧ wr.ownsRow g 51 2 (.slice lo n lc) n (repL (mV m) j ++ rest)) := ⟨hg, hsz, hgr, hown⟩
  have hxN : wr.heap[w.heap.size]? = some (.cells #[.int .i64 m, .int .i64 m] 51) := (hgr.block _ (lt_of_block (uh HN1)) (fun e => by have := uh HBL _ e.symm; omega)).trans (uh HN1)
  obtain ⟨⟨x0, x1⟩, _⟩ := box2 hxN
  have hxl := lt_of_block hxN
  clear hg
  by_cases hlt : j < n
  ·obtain ⟨lb, lc', hlv, hgb, hlb⟩ := hown.form (by omega)
   simp only [Value.slice.injEq, true_and] at hlv
   obtain ⟨rfl, rfl⟩ := hlv
   have hrl : (repL (mV m) j ++ rest).length = n * 2 := hown.1
   rw [List.length_append, repL_len] at hrl
   simp only [mV, List.length_cons, List.length_nil] at hrl
   obtain ⟨a, b, rest', rfl⟩ : ∃ a b rest', rest = a :: b :: rest' := by
    match rest, hrl with
    | [], h => simp at h; omega
    | [a], h => simp at h; omega
    | a :: b :: t, _ => exact ⟨a, b, t, rfl⟩
   obtain ⟨p0, p1, p2⟩ := owns_set hown (i := j * 2) (by omega) (.int .i64 m)
   have q0 := (owns_set hown (i := j * 2 + 1) (by omega) (.int .i64 m)).1
   have q1 := (owns_set hown (i := j * 2 + 1) (by omega) (.int .i64 m)).2.1
   have p3 := (owns_set p2 (i := j * 2 + 1) (by omega) (.int .i64 m)).2.2
   rw [fill_set] at p3
   have hl2 : (repL (mV m) j).length = j * 2 := repL_len _ _
   rw [List.getElem?_append_right (by omega), hl2, show j * 2 - j * 2 = 0 by omega] at p0
   rw [List.getElem?_append_right (by omega), hl2, show j * 2 + 1 - j * 2 = 1 by omega] at q0
   simp only [List.getElem?_cons_zero, List.getElem?_cons_succ] at p0 q0
   have HP3 := hide p3
   have hjc : (j : Int) < n := by omega
   have HGR : Hid (w1.grownBy ((wr.setCell ⟨lb, j * 2, none⟩ (.int .i64 m)).setCell ⟨lb, j * 2 + 1, none⟩ (.int .i64 m)) (some lb)) := hide ⟨hgr.os, hgr.tape, hgr.output, by simp only [World.setCell, Array.size_modify]; exact hgr.size, fun q hq hne => by
    rw [Below.heap_setCell _ _ _ _ (fun e => hne (by rw [e])), Below.heap_setCell _ _ _ _ (fun e => hne (by rw [e]))]; exact hgr.block q hq hne⟩
   clear hgr hown p2 p3 hrl hl2
   go_wp2_with fail
   go_roundg (n - (j + 1))
   case measure => have := A.out.1; omega
   case rel => exact ⟨j + 1, rest', by omega, rfl, by go_num, by simp only [World.setCell, Array.size_modify]; exact A.out.2.1, uh HGR, uh HP3⟩
  ·have hje : j = n := by omega
   subst hje
   have hrest : rest = [] := by
    have := hown.1
    rw [List.length_append, repL_len] at this
    simp only [mV, List.length_cons, List.length_nil] at this
    exact List.eq_nil_of_length_eq_zero (by omega)
   subst hrest
   rw [List.append_nil] at hown
   have hK2 := (uh HK1).grown (w' := wr) (by omega) (fun q hq hx => hgr.block q hq (fun e => hx (Or.inl (uh HX _ e.symm))))
   have HK2 := hide hK2
   have HO2 := hide hown
   have HB2 : Hid (Below g w wr) := hide ((uh HB1).trans ⟨hgr.os, hgr.tape, hgr.output, hgr.size, fun q hq => hgr.block q (by omega) (fun e => by have := (hown.lt _ e.symm).1; omega)⟩)
   have HXN := hide hxN
   have hgw : g ≤ wr.heap.size := by omega
   obtain ⟨i2, hi2, z0, z1, z2⟩ := info_parts Tryz.info_value
   have HOV : Hid (OV g h F r m [(.slice lo j lc, j)] wr) := hide ⟨_, uh HK2, fun u hu => by
    simp only [List.mem_singleton] at hu
    subst hu
    exact ⟨uh HO2, fun b hb => Or.inl (Or.inl (uh HX b hb))⟩⟩
   clear hgr hown hK2 A hsz hlt hj hxN HK2
   have E1 : Hid ([.int .i64 m, .int .i64 m] = repL (mV m) 1) := hide rfl
   have E2 : Hid ([.int .i64 m, .int .i64 m, .int .i64 m, .int .i64 m] = repL (mV m) 2) := hide rfl
   have E3 : Hid ([.int .i64 m, .int .i64 m, .int .i64 m, .int .i64 m, .int .i64 m, .int .i64 m] = repL (mV m) 3) := hide rfl
   have HGW := hide hgw
   obtain ⟨i3, hi3, y0, y1, y2⟩ := info_parts Tryz.info_lvalues
   obtain ⟨i4, hi4, v0, v1, v2⟩ := info_parts Tryz.info_int
   clear hgw
   go_wp2_with (at_builtin; first | (refine wpList_append_told _ (by rfl) _ _ _ (by rfl) g 51 i2 _ 2 16 Tryz.underlying47 hi2 z0 z1 z2 rfl (by decide) (.slice lo j lc) j (repL (mV m) j) (by rfl) ((uh HO2).alloc _) ⟨wr.heap.size, 0, none⟩ 1 1 [.int .i64 m, .int .i64 m] (by rfl) (by rfl) (World.news_of_block (cs := #[.int .i64 m, .int .i64 m]) (t := 51) (fr := (0, 0)) (heap_alloc_new wr _)) (by simp [Value.oneCell']) (by decide) (uh HQ 1 (by decide)).1 (uh HQ 1 (by decide)).2 (Nat.le_trans (uh HGW) ((Below.refl g wr).alloc (uh HGW) _).size) (wr.heap.size + 1) (by simp) ?_; intro g1 c1 w3 hown7 hgrow7 hat7 hrow7; rw [uh E1] at hown7 hrow7; have A1 := hide (OV.app ((uh HOV).below ((Below.refl _ wr).alloc (Nat.le_refl _) _)) (by simp) hown7 hgrow7 hat7 (by simp) hrow7); have XN1 : Hid (w3.heap[w.heap.size]? = some (.cells #[.int .i64 m, .int .i64 m] 51)) := hide ((hgrow7.block _ (Nat.lt_of_lt_of_le (lt_of_block (uh HXN)) ((Below.refl g wr).alloc (uh HGW) _).size) (fun e => absurd (uh HBL _ e.symm) (Nat.lt_irrefl _))).trans ((Below.heap_alloc _ _ _ (lt_of_block (uh HXN))).trans (uh HXN))); have OV1 := hide (uh A1).1; have OW1 := hide ((uh A1).1.own (l := .slice lo j lc) (n := j) (by simp)); have BB1 := hide ((uh HB2).trans ((Below.alloc (Below.refl g wr) (uh HGW) _).trans (uh A1).2)); have GW1 := hide (Nat.le_of_lt ((uh OV1).cells (i := 2) (by decide) (grown_refl w3 _)).2.2.2.2); have xl1 := lt_of_block (uh XN1); obtain ⟨⟨xa1, xb1⟩, -⟩ := box2 (uh XN1); obtain ⟨ya1, -, -, -, yg1⟩ := (uh OV1).cells (i := 2) (by decide) (grown_refl w3 _); rw [uh H2V] at ya1; clear hown7 hgrow7 hat7 hrow7) | (refine wpList_append_told _ (by rfl) _ _ _ (by rfl) g 51 i2 _ 2 16 Tryz.underlying47 hi2 z0 z1 z2 rfl (by decide) (.slice lo j lc) j (repL (mV m) j) (by rfl) ((uh OW1).alloc _) ⟨w3.heap.size, 0, none⟩ 2 2 [.int .i64 m, .int .i64 m, .int .i64 m, .int .i64 m] (by rfl) (by rfl) (World.news_of_block (cs := #[.int .i64 m, .int .i64 m, .int .i64 m, .int .i64 m]) (t := 51) (fr := (0, 0)) (heap_alloc_new w3 _)) (by simp [Value.oneCell']) (by decide) (uh HQ 2 (by decide)).1 (uh HQ 2 (by decide)).2 (Nat.le_trans (uh GW1) ((Below.refl g w3).alloc (uh GW1) _).size) (w3.heap.size + 1) (by simp) ?_; intro g2 c2 w4 hown7 hgrow7 hat7 hrow7; rw [uh E2] at hown7 hrow7; have A2 := hide (OV.app ((uh OV1).below ((Below.refl _ w3).alloc (Nat.le_refl _) _)) (by simp) hown7 hgrow7 hat7 (by simp) hrow7); have XN2 : Hid (w4.heap[w.heap.size]? = some (.cells #[.int .i64 m, .int .i64 m] 51)) := hide ((hgrow7.block _ (Nat.lt_of_lt_of_le (lt_of_block (uh XN1)) ((Below.refl g w3).alloc (uh GW1) _).size) (fun e => absurd (uh HBL _ e.symm) (Nat.lt_irrefl _))).trans ((Below.heap_alloc _ _ _ (lt_of_block (uh XN1))).trans (uh XN1))); have OV2 := hide (uh A2).1; have OW2 := hide ((uh A2).1.own (l := .slice lo j lc) (n := j) (by simp)); have BB2 := hide ((uh BB1).trans ((Below.alloc (Below.refl g w3) (uh GW1) _).trans (uh A2).2)); have GW2 := hide (Nat.le_of_lt ((uh OV2).cells (i := 2) (by decide) (grown_refl w4 _)).2.2.2.2); have xl2 := lt_of_block (uh XN2); obtain ⟨⟨xa2, xb2⟩, -⟩ := box2 (uh XN2); obtain ⟨ya2, -, -, -, yg2⟩ := (uh OV2).cells (i := 2) (by decide) (grown_refl w4 _); rw [uh H2V] at ya2; clear hown7 hgrow7 hat7 hrow7) | (refine wpList_append_told _ (by rfl) _ _ _ (by rfl) g 51 i2 _ 2 16 Tryz.underlying47 hi2 z0 z1 z2 rfl (by decide) (.slice lo j lc) j (repL (mV m) j) (by rfl) ((uh OW2).alloc _) ⟨w4.heap.size, 0, none⟩ 3 3 [.int .i64 m, .int .i64 m, .int .i64 m, .int .i64 m, .int .i64 m, .int .i64 m] (by rfl) (by rfl) (World.news_of_block (cs := #[.int .i64 m, .int .i64 m, .int .i64 m, .int .i64 m, .int .i64 m, .int .i64 m]) (t := 51) (fr := (0, 0)) (heap_alloc_new w4 _)) (by simp [Value.oneCell']) (by decide) (uh HQ 3 (by decide)).1 (uh HQ 3 (by decide)).2 (Nat.le_trans (uh GW2) ((Below.refl g w4).alloc (uh GW2) _).size) (w4.heap.size + 1) (by simp) ?_; intro g3 c3 w5 hown7 hgrow7 hat7 hrow7; rw [uh E3] at hown7 hrow7; have A3 := hide (OV.app ((uh OV2).below ((Below.refl _ w4).alloc (Nat.le_refl _) _)) (by simp) hown7 hgrow7 hat7 (by simp) hrow7); have XN3 : Hid (w5.heap[w.heap.size]? = some (.cells #[.int .i64 m, .int .i64 m] 51)) := hide ((hgrow7.block _ (Nat.lt_of_lt_of_le (lt_of_block (uh XN2)) ((Below.refl g w4).alloc (uh GW2) _).size) (fun e => absurd (uh HBL _ e.symm) (Nat.lt_irrefl _))).trans ((Below.heap_alloc _ _ _ (lt_of_block (uh XN2))).trans (uh XN2))); have OV3 := hide (uh A3).1; have OW3 := hide ((uh A3).1.own (l := .slice lo j lc) (n := j) (by simp)); have BB3 := hide ((uh BB2).trans ((Below.alloc (Below.refl g w4) (uh GW2) _).trans (uh A3).2)); have GW3 := hide (Nat.le_of_lt ((uh OV3).cells (i := 2) (by decide) (grown_refl w5 _)).2.2.2.2); have xl3 := lt_of_block (uh XN3); obtain ⟨⟨xa3, xb3⟩, -⟩ := box2 (uh XN3); obtain ⟨ya3, -, -, -, yg3⟩ := (uh OV3).cells (i := 2) (by decide) (grown_refl w5 _); rw [uh H2V] at ya3; clear hown7 hgrow7 hat7 hrow7) | (refine wpList_append_told _ (by rfl) _ _ _ (by rfl) g 47 i3 _ 1 24 Tryz.underlying76 hi3 y0 y1 y2 rfl (by decide) (.slice o2 h.vs.length p2) h.vs.length (rowX h 2) (by rfl) (((uh OV3).row2 (uh H2V) rfl).alloc _) ⟨w5.heap.size, 0, none⟩ 4 4 [.slice lo j lc, .slice (some ⟨g1, 0, none⟩) (j + 1) c1, .slice (some ⟨g2, 0, none⟩) (j + 2) c2, .slice (some ⟨g3, 0, none⟩) (j + 3) c3] (by rfl) (by rfl) (World.news_of_block (cs := #[.slice lo j lc, .slice (some ⟨g1, 0, none⟩) (j + 1) c1, .slice (some ⟨g2, 0, none⟩) (j + 2) c2, .slice (some ⟨g3, 0, none⟩) (j + 3) c3]) (t := 47) (fr := (0, 0)) (heap_alloc_new w5 _)) (by simp [Value.oneCell']) (by decide) (uh HBF).1 (uh HVS) (Nat.le_trans (uh GW3) ((Below.refl g w5).alloc (uh GW3) _).size) (w5.heap.size + 1) (by simp) ?_; intro g4 c4 w6 hown7 hgrow7 hat7 hrow7; rw [← uh H2V] at hgrow7 hat7; obtain ⟨X4, F4, L4, B4⟩ := OV.put ((uh OV3).below ((Below.refl _ w5).alloc (Nat.le_refl _) _)) hgrow7 hown7 hat7 (by simp); have HL4 := hide L4; have BB4 := hide ((uh BB3).trans ((Below.alloc (Below.refl g w5) (uh GW3) _).trans B4)); obtain ⟨ya4, yb4, yc4, yd4, yg4⟩ := ((uh OV3).below ((Below.refl _ w5).alloc (Nat.le_refl _) _)).cells (i := 2) (by decide) hgrow7; rw [uh H2V] at ya4; rw [uh H5V] at yb4; clear hown7 hgrow7 hat7 hrow7 L4 B4))
   have HL6 : Hid (LawG (w6.setCell ⟨g, 2, none⟩ (.slice (some ⟨g4, 0, none⟩) (h.vs.length + 4) c4)) g (updX (rowX h) 2 (rowX h 2 ++ [(.slice lo j lc, j, m), (.slice (some ⟨g1, 0, none⟩) (j + 1) c1, j + 1, m), (.slice (some ⟨g2, 0, none⟩) (j + 2) c2, j + 2, m), (.slice (some ⟨g3, 0, none⟩) (j + 3) c3, j + 3, m)].map fun x => x.1)) { h with vs := h.vs ++ [(.slice lo j lc, j, m), (.slice (some ⟨g1, 0, none⟩) (j + 1) c1, j + 1, m), (.slice (some ⟨g2, 0, none⟩) (j + 2) c2, j + 2, m), (.slice (some ⟨g3, 0, none⟩) (j + 3) c3, j + 3, m)] } X4 F4 (updR r 2 ⟨.slice (some ⟨g4, 0, none⟩) (h.vs.length + 4) c4, h.vs.length + 4, rowX h 2 ++ [(.slice lo j lc, j, m), (.slice (some ⟨g1, 0, none⟩) (j + 1) c1, j + 1, m), (.slice (some ⟨g2, 0, none⟩) (j + 2) c2, j + 2, m), (.slice (some ⟨g3, 0, none⟩) (j + 3) c3, j + 3, m)].map fun x => x.1⟩)) := HL4
   clear HL4 ya4 yb4 yc4 yd4 yg4 xa1 xa2 xa3 xb1 xb2 xb3 ya1 ya2 ya3 yg1 yg2 yg3 xl1 xl2 xl3
   generalize w6.setCell ⟨g, 2, none⟩ (.slice (some ⟨g4, 0, none⟩) (h.vs.length + 4) c4) = w8 at *
   obtain ⟨q5, qf5, qg⟩ := cells5L (uh HL6) (grown_refl w8 _)
   rw [uh H5V] at q5
   have HLD := hide ((uh HL6).below (Below.refl _ w8).drew)
   have HR5 := hide (row5 (uh HLD) (uh H5V) rfl)
   have HG8 := hide (Nat.le_of_lt qg)
   go_region_law (first
    | (refine step_append_told _ (by rfl) _ _ _ (by rfl) g 3 i4 _ 1 8 Tryz.underlying25 hi4 v0 v1 v2 rfl (by decide) (.slice o5 h.vs.length p5) h.vs.length (rowX h 5) (by rfl) ((uh HR5).alloc _) ⟨w8.heap.size, 0, none⟩ 4 4 [.int .i64 m, .int .i64 m, .int .i64 m, .int .i64 m] (by rfl) (by rfl) (World.news_of_block (cs := #[.int .i64 m, .int .i64 m, .int .i64 m, .int .i64 m]) (t := 3) (fr := (0, 0)) (heap_alloc_new w8.drew _)) (by simp [Value.oneCell']) (by decide) (uh HBF).1 (uh HBF).2.1 (Nat.le_trans (uh HG8) ((Below.refl g w8.drew).alloc (uh HG8) _).size) (w8.heap.size + 1) (by simp) ?_; intro g5 c5 w7 hown7 hgrow7 hat7 hrow7; rw [← uh H5V] at hgrow7 hat7; have A5 := hide (put5 ((uh HLD).below ((Below.refl _ w8.drew).alloc (Nat.le_refl _) _)) hgrow7 hown7 hat7 (by simp) (by rfl)); obtain ⟨yb5, yd5, yg5⟩ := cells5L ((uh HLD).below ((Below.refl _ w8.drew).alloc (Nat.le_refl _) _)) hgrow7; rw [uh H5V] at yb5; clear hown7 hgrow7 hat7 hrow7)
    | go_simp)
   all_goals
    go_end0
    exact ⟨rfl, (uh BB4).trans ((Below.refl g w8).drew.trans ((Below.alloc (Below.refl g w8.drew) (uh HG8) _).trans (uh A5).2)), _, rfl, (uh A5).1⟩
end Go.Proofs.YthnggjaecngbiaaGreatDoor
