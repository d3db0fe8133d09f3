import Derived.Test.YtdgbmcbkbkbdoaaGreatDoorLgE
namespace Go.Proofs.YtdgbmcbkbkbdoaaGreatDoor
open Go.RowKit
def overL (l : List Value) (j : Nat) : List Value := List.replicate j (.int .i64 (-99)) ++ l.drop j
theorem overL_len {l : List Value} {j : Nat} (h : j ≤ l.length) : (overL l j).length = l.length := by simp [overL]; omega
theorem overL_set {l : List Value} {j : Nat} (h : j < l.length) : (overL l j).toArray.setIfInBounds j (.int .i64 (-99)) = (overL l (j + 1)).toArray := by
 unfold overL
 rw [List.setIfInBounds_toArray, List.set_append_right _ _ (by simp), List.replicate_succ', List.append_assoc, List.length_replicate, Nat.sub_self, List.drop_eq_getElem_cons h]
 rfl
theorem overL_at {l : List Value} {j i : Nat} (h : j ≤ i) : (overL l j)[i]? = l[i]? := by
 unfold overL
 rw [List.getElem?_append_right (by simpa using h), List.length_replicate, List.getElem?_drop]
 congr 1
 omega
theorem overL_take {l : List Value} {n j : Nat} (h : n ≤ j) : (overL l j).take n = repL (mI (-99)) n := by
 unfold overL
 rw [List.take_append_of_le_length (by simpa using h), List.take_replicate, Nat.min_eq_left h]
 simp [repL, mI]
theorem lentL_in {vals : List Int} {j : Nat} (h : j < vals.length) : (lentL vals 8)[j]? = some (.int .i64 vals[j]) := by
 unfold lentL
 rw [List.getElem?_append_left (by simpa [ints] using h)]
 simp [ints, h]
theorem lentL_out {vals : List Int} {j : Nat} (h : vals.length ≤ j) (h2 : j < vals.length + 8) : (lentL vals 8)[j]? = some (.int .i64 (-77)) := by
 unfold lentL
 rw [List.getElem?_append_right (by simpa [ints] using h), List.getElem?_replicate, if_pos (by simp [ints]; omega)]
theorem Still.more_ls {w : World} {h : Hist} (k : Still w h) {v : Value} {n : Nat} (ho : w.ownsRow 0 3 1 v n (repL (mI (-99)) n)) : Still w { h with ls := h.ls ++ [(v, n)] } :=
 ⟨k.ps, k.ns, k.vs, fun x hx => by
  rcases List.mem_append.1 hx with hx | hx
  ·exact k.ls x hx
  ·simp only [List.mem_singleton] at hx
   subst hx
   exact ho⟩
theorem owns_zero {w : World} {base : Nat} {e : TypeId} {size : Nat} {v : Value} {n : Nat} {xs : List Value} (h : w.ownsRow base e size v n xs) : w.ownsRow 0 e size v n xs := owns_base h (Nat.zero_le _)
theorem LawG.cells {w w1 : World} {g i : Nat} {rx : Nat → List Value} {h : Hist} {X F : Nat → Prop} {r : Nat → LRow} (k : LawG w g rx h X F r) (hi : i < 6) (hg : w.grownBy w1 (r i).v.ownBlock) :
  (w1.cell? ⟨g, 0, none⟩ = some (r 0).v ∧ w1.cell? ⟨g, 1, none⟩ = some (r 1).v ∧ w1.cell? ⟨g, 2, none⟩ = some (r 2).v ∧ w1.cell? ⟨g, 3, none⟩ = some (r 3).v ∧ w1.cell? ⟨g, 4, none⟩ = some (r 4).v ∧ w1.cell? ⟨g, 5, none⟩ = some (r 5).v) ∧
  w1.frozen? ⟨g, 0, none⟩ = false ∧ w1.frozen? ⟨g, 1, none⟩ = false ∧ w1.frozen? ⟨g, 2, none⟩ = false ∧ w1.frozen? ⟨g, 3, none⟩ = false ∧ w1.frozen? ⟨g, 4, none⟩ = false ∧ w1.frozen? ⟨g, 5, none⟩ = false := by
 have hb : w1.heap[g]? = some (.cells #[(r 0).v, (r 1).v, (r 2).v, (r 3).v, (r 4).v, (r 5).v] 75) := (hg.block g (lt_of_block k.1.blk) (fun e => (k.1.far i hi g e.symm).1 rfl)).trans k.1.blk
 simp [World.cell?, World.frozen?, hb]
theorem LawG.count3 {w : World} {g : Nat} {h : Hist} {X F : Nat → Prop} {r : Nat → LRow} (k : LawG w g (rowX h) h X F r) : (r 3).n = h.ls.length := by
 have := (k.1.own 3 (by omega)).1
 rw [k.2.1 3 (by omega)] at this
 simp only [rowX, wsz, List.length_map] at this
 omega
theorem rowX_ls (h : Hist) (v : Value) (n : Nat) : ∀ i, i < 6 → updX (rowX h) 3 (rowX h 3 ++ [v]) i = rowX { h with ls := h.ls ++ [(v, n)] } i := by
 intro i hi
 rcases (by omega : i = 0 ∨ i = 1 ∨ i = 2 ∨ i = 3 ∨ i = 4 ∨ i = 5) with rfl | rfl | rfl | rfl | rfl | rfl <;> simp [updX, rowX]
set_option maxRecDepth 100000 in
set_option maxHeartbeats 3200000 in
theorem whole_any (g : Nat) (h : Hist) (X : Nat → Prop) (gb gc : Nat) (lv : Value) (vals : List Int) (w : World) (k : LawAt w g h X) (ho : w.ownsRow g 3 1 (.slice (some ⟨gb, 0, none⟩) (vals.length + 8) gc) (vals.length + 8) (lentL vals 8)) (hX : X gb)
  (hl : InSl w lv vals) (hlg : vals ≠ [] → ∀ a n c, lv = .slice (some a) n c → a.block ≠ gb) (hls : (h.ls.length + 1 + (h.ls.length + 1) / 4 + 192) * 24 ≤ 281474976710656) :
  Calls Tryz.prog 72 #[.pointer (some ⟨g, 0, none⟩), .slice (some ⟨gb, 0, none⟩) (vals.length + 8) gc, lv] w fun e w' =>
   e = .returned (.bool true) ∧ LawAt w' g { h with ls := h.ls ++ [(.slice (some ⟨gb, 0, none⟩) (vals.length + 8) gc, vals.length + 8)] } (fun j => X j ∧ j ≠ gb) ∧ Below g w w' ∧ ∀ j, X j → j ≠ gb → w'.heap[j]? = w.heap[j]? := by
 obtain ⟨lo, lc, rfl⟩ := hl.form
 obtain ⟨F, r, kG⟩ := k
 obtain ⟨hol, hoo⟩ := ho
 rcases hoo with ⟨hv, _⟩ | ⟨gb', gc', cur, hv, hgg, hcur, hnc, hcm, hcs, htk⟩
 ·simp at hv
 simp only [Value.slice.injEq, Option.some.injEq, Addr.mk.injEq, and_true, true_and] at hv
 obtain ⟨rfl, rfl⟩ := hv
 rw [Nat.mul_one] at hcs htk
 have hcl : vals.length + 8 ≤ cur.toList.length := by have := Array.length_toList (xs := cur); omega
 have HK := hide kG
 have HL := hide hl
 have HTK := hide htk
 have HCUR := hide hcur
 have HGG := hide hgg
 have hmx : vals.length + 8 ≤ 9223372036854775807 := by unfold maxLen at hcm; omega
 have HLG := hide hlg
 have hgbs := lt_of_block hcur
 have HX := hide hX
 have HCM := hide hcm
 clear kG hl htk hgg hlg hol hX hcm
 go_enter Tryz.func72, Tryz.ntmps72
 go_wp2_with fail
 go_loopg [7, 8] (vals.length + 8) (fun gk ov iv wr => ∃ j : Nat, j ≤ vals.length + 8 ∧ gk = vals.length + 8 - j ∧ iv = .int .i64 (j : Int) ∧ ov = .bool true ∧ wr.heap.size = w.heap.size ∧ w.grownBy wr (some gb) ∧ wr.heap[gb]? = some (.cells (overL cur.toList j).toArray 3))
 case atStart => exact ⟨0, by omega, rfl, rfl, rfl, rfl, ⟨rfl, rfl, rfl, Nat.le_refl _, fun _ _ _ => rfl⟩, by rw [uh HCUR]; rfl⟩
 case round =>
  obtain ⟨j, hj, hg, rfl, rfl, hsz, hgr, harr⟩ := hrel
  have A : Aside (gk = vals.length + 8 - j ∧ wr.heap.size = w.heap.size ∧ w.grownBy wr (some gb) ∧ wr.heap[gb]? = some (.cells (overL cur.toList j).toArray 3)) := ⟨hg, hsz, hgr, harr⟩
  clear hg
  by_cases hlt : j < vals.length + 8
  ·obtain ⟨a0, f0⟩ := arr_cell harr j
   rw [overL_at (Nat.le_refl _)] at a0
   have hcell : cur.toList[j]? = (lentL vals 8)[j]? := by rw [← uh HTK, List.getElem?_take, if_pos hlt]
   rw [hcell] at a0
   have hgbr : gb < wr.heap.size := by omega
   have HAR : Hid ((wr.setCell ⟨gb, j, none⟩ (.int .i64 (-99))).heap[gb]? = some (.cells (overL cur.toList (j + 1)).toArray 3)) := hide (by
    rw [heap_set_same harr, overL_set (by omega)])
   have HGR : Hid (w.grownBy (wr.setCell ⟨gb, j, none⟩ (.int .i64 (-99))) (some gb)) := hide ⟨hgr.os, hgr.tape, hgr.output, by simp only [World.setCell, Array.size_modify]; exact hgr.size, fun q hq hne => by
    rw [Below.heap_setCell _ _ _ _ (fun e => hne (by rw [e]))]; exact hgr.block q hq hne⟩
   have hjn : (j : Int) < vals.length + 8 := by omega
   by_cases hin : j < vals.length
   ·rw [lentL_in hin] at a0
    rcases uh HL with ⟨h0, _⟩ | ⟨gl, off, cp, hv, hc2, hm2, hgl, hx⟩
    ·rw [h0] at hin; simp at hin
    simp only [Value.slice.injEq] at hv
    obtain ⟨rfl, _, rfl⟩ := hv
    have hne : gl ≠ gb := uh HLG (fun h0 => by rw [h0] at hin; simp at hin) ⟨gl, off, none⟩ _ _ rfl
    have l0 : wr.cell? ⟨gl, off + j, none⟩ = some (.int .i64 vals[j]) := by
     have hb2 := hgr.block gl hgl (by simpa using hne)
     rw [World.cell?_of_block (a := ⟨gl, off + j, none⟩) hb2]
     exact hx j vals[j] (by simp [hin])
    have hglr : gl < wr.heap.size := by omega
    have hjv : (j : Int) < vals.length := by omega
    generalize vals[j] = y at *
    clear hx harr hgr hcell
    go_wp2_with fail
    go_roundg (vals.length + 8 - (j + 1))
    case measure => have := A.out.1; omega
    case rel => exact ⟨j + 1, by omega, rfl, by go_num, by simp, by simp only [World.setCell, Array.size_modify]; exact hsz, uh HGR, uh HAR⟩
   ·rw [lentL_out (by omega) hlt] at a0
    have hjv : ¬ (j : Int) < vals.length := by omega
    clear harr hgr hcell
    go_wp2_with fail
    go_roundg (vals.length + 8 - (j + 1))
    case measure => have := A.out.1; omega
    case rel => exact ⟨j + 1, by omega, rfl, by go_num, by simp, by simp only [World.setCell, Array.size_modify]; exact hsz, uh HGR, uh HAR⟩
  ·have hje : j = vals.length + 8 := by omega
   subst hje
   have hn3 : (r 3).n = h.ls.length := (uh HK).count3
   obtain ⟨o3, p3, h3v⟩ := (uh HK).1.form (i := 3) (by omega)
   rw [hn3] at h3v
   have kW := (uh HK).wrote (w' := wr) (by omega) (fun q hq hx => hgr.block q hq (fun e => hx (by simp only [Option.some.injEq] at e; rw [e]; exact uh HX)))
   obtain ⟨⟨_, _, _, c3, _, _⟩, _, _, _, f3, _, _⟩ := kW.1.cells
   have hgl := lt_of_block kW.1.blk
   have o3w : wr.ownsRow g 25 1 (.slice o3 h.ls.length p3) h.ls.length (rowX h 3) := by
    have := kW.1.own 3 (by omega)
    rw [kW.2.1 3 (by omega), hn3, h3v] at this
    exact this
   rw [h3v] at c3
   obtain ⟨wA, hwA⟩ : ∃ wA, wA = wr.alloc (.cells #[.slice (some ⟨gb, 0, none⟩) (vals.length + 8) gc] 25) := ⟨_, rfl⟩
   have hbA : Below wr.heap.size wr wA := by rw [hwA]; exact (Below.refl _ wr).alloc (Nat.le_refl _) _
   have kA := kW.below hbA
   have hgA : wA.heap[gb]? = some (.cells (overL cur.toList (vals.length + 8)).toArray 3) := (hbA.block gb (by omega)).trans harr
   have HST : Hid (∀ w', wA.heap.size ≤ w'.heap.size → (∀ q, F q ∨ q = gb → w'.heap[q]? = wA.heap[q]?) → Still w' { h with ls := h.ls ++ [(.slice (some ⟨gb, 0, none⟩) (vals.length + 8) gc, vals.length + 8)] }) := hide (fun w' hs hF =>
    Still.more_ls (kA.2.2.1 w' hs (fun q hq => hF q (Or.inl hq))) ⟨by rw [repL_len]; rfl, Or.inr ⟨gb, gc, _, rfl, Nat.zero_le _, (hF gb (Or.inr rfl)).trans hgA, hnc, uh HCM, by simp only [List.size_toArray]; rw [overL_len hcl, Array.length_toList, hcs, Nat.mul_one], by rw [Nat.mul_one]; exact overL_take (Nat.le_refl _)⟩⟩)
   have HKA := hide kA
   have HO3 := hide o3w
   have H3V := hide h3v
   have HBW : Hid (Below g w wA) := hide (Below.trans ⟨hgr.os, hgr.tape, hgr.output, hgr.size, fun q hq => hgr.block q (by omega) (fun e => by simp only [Option.some.injEq] at e; have := uh HGG; omega)⟩ (hbA.mono (by omega)))
   have HXW : Hid (∀ q, X q → q ≠ gb → wA.heap[q]? = w.heap[q]?) := hide (fun q hq hne => (hbA.block q (by have := ((uh HK).2.2.2 q hq).1; omega)).trans (hgr.block q ((uh HK).2.2.2 q hq).1 (by simpa using hne)))
   have HWA := hide hwA
   have hls1 : h.ls.length + 1 ≤ maxLen := by unfold maxLen; omega
   obtain ⟨i3, hi3, y0, y1, y2⟩ := info_parts Tryz.info_ints
   have hgwr : g ≤ wr.heap.size := by omega
   clear hgr harr hgA hbA hwA kW kA o3w h3v hsz A
   go_wp2_with (at_builtin; refine wpList_append_told _ (by rfl) _ _ _ (by rfl) g 25 i3 _ 1 24 Tryz.underlying71 hi3 y0 y1 y2 rfl (by decide) (.slice o3 h.ls.length p3) h.ls.length (rowX h 3) (by rfl) ((uh HO3).alloc _) ⟨wr.heap.size, 0, none⟩ 1 1 [.slice (some ⟨gb, 0, none⟩) (vals.length + 8) gc] (by rfl) (by rfl) (World.news_of_block (cs := #[.slice (some ⟨gb, 0, none⟩) (vals.length + 8) gc]) (t := 25) (fr := (0, 0)) (heap_alloc_new wr _)) (by simp [Value.oneCell']) (by decide) hls1 hls (by simp; omega) (wr.heap.size + 1) (by simp) ?_; intro gg cap w7 hown7 hgrow7 hat7 hrow7; rw [← uh HWA] at hgrow7; rw [← uh H3V] at hgrow7 hat7; have AB := hide ((uh HKA).push (E := fun q => q = gb) (by omega) hgrow7 hown7 hat7 (by rw [uh HWA]; simp) (fun q hq => by rw [hq]; exact uh HX) (uh HST)); obtain ⟨⟨_, _, _, z3, _, _⟩, _, _, _, zf3, _, _⟩ := (uh HKA).cells (i := 3) (by omega) hgrow7; have hg7 : g < w7.heap.size := Nat.lt_of_lt_of_le (lt_of_block (uh HKA).1.blk) hgrow7.size; clear hown7 hgrow7 hat7 hrow7)
   go_ret
   obtain ⟨a1, a2, a3⟩ := uh AB
   refine ⟨rfl, a1.at (rowX_ls h _ _), (uh HBW).trans a2, fun q hq hne => (a3 q hq).trans (uh HXW q hq hne)⟩
end Go.Proofs.YtdgbmcbkbkbdoaaGreatDoor
namespace Go.Proofs.YtdgbmcbkbkbdoaaGreatDoor
open Go.RowKit
theorem owns_set {w : World} {base lb n cap size i : Nat} {e : TypeId} {ys : List Value} (h : w.ownsRow base e size (.slice (some ⟨lb, 0, none⟩) n cap) n ys) (hi : i < n * size) (v : Value) :
  w.cell? ⟨lb, i, none⟩ = ys[i]? ∧ w.frozen? ⟨lb, i, none⟩ = false ∧ (w.setCell ⟨lb, i, none⟩ v).ownsRow base e size (.slice (some ⟨lb, 0, none⟩) n cap) n (ys.set i v) := by
 rcases h with ⟨h0, hv | ⟨g, c, cur, hv, hb, hg, h1, h2, h3, h4⟩⟩
 ·simp at hv
 simp only [Value.slice.injEq, Option.some.injEq, Addr.mk.injEq, and_true, true_and] at hv
 obtain ⟨rfl, rfl⟩ := hv
 refine ⟨?_, by simp [World.frozen?, hg], by rw [List.length_set]; exact h0, Or.inr ⟨lb, cap, _, rfl, hb, cell_set6 hg, h1, h2, by simpa using h3, ?_⟩⟩
 ·rw [← h4, List.getElem?_take, if_pos hi]
  simp [World.cell?, hg]
 ·rw [← h4, Array.toList_setIfInBounds, List.take_set]
theorem set_mid {a : List Value} {x y : Value} {r : List Value} : (a ++ x :: r).set a.length y = a ++ y :: r := by
 rw [List.set_append_right _ _ (Nat.le_refl _)]
 simp
theorem repL_two {m : Int} {j : Nat} {rest : List Value} : repL (mV m) j ++ .int .i64 m :: .int .i64 m :: rest = repL (mV m) (j + 1) ++ rest := by
 rw [repL_add, List.append_assoc]
 rfl
theorem fill_set {m : Int} {j : Nat} {a b : Value} {rest : List Value} : ((repL (mV m) j ++ a :: b :: rest).set (j * 2) (.int .i64 m)).set (j * 2 + 1) (.int .i64 m) = repL (mV m) (j + 1) ++ rest := by
 have hl : (repL (mV m) j).length = j * 2 := repL_len _ _
 have h1 : (repL (mV m) j ++ a :: b :: rest).set (j * 2) (.int .i64 m) = repL (mV m) j ++ .int .i64 m :: b :: rest := by
  rw [← hl]; exact set_mid
 rw [h1]
 have h2 : repL (mV m) j ++ .int .i64 m :: b :: rest = (repL (mV m) j ++ [.int .i64 m]) ++ b :: rest := by simp
 have h3 : j * 2 + 1 = (repL (mV m) j ++ [Value.int .i64 m]).length := by simp [hl]
 rw [h2, h3, set_mid, ← repL_two]
 simp
theorem LawG.grown {w w' : World} {g : Nat} {rx : Nat → List Value} {h : Hist} {X F : Nat → Prop} {r : Nat → LRow} (k : LawG w g rx h X F r) (hs : w.heap.size ≤ w'.heap.size) (hb : ∀ j, j < w.heap.size → ¬ X j → w'.heap[j]? = w.heap[j]?) : LawG w' g rx h (fun j => X j ∨ (w.heap.size ≤ j ∧ j < w'.heap.size)) F r := by
 obtain ⟨h1, h2, h3, h4⟩ := k
 refine ⟨h1.apart hs ?_, h2, fun w'' hs2 hF => h3 w'' (Nat.le_trans hs hs2) (fun j hj => (hF j hj).trans (hb j (h1.lt j hj) (fun hx => (h4 j hx).2.1 hj))), ?_⟩
 ·rintro j hj (rfl | ⟨i, hi, he⟩)
  ·exact hb j hj (fun hx => (h4 j hx).2.2.1 rfl)
  ·exact hb j hj (fun hx => (h4 j hx).2.2.2 i hi he)
 ·rintro j (hj | ⟨hj1, hj2⟩)
  ·obtain ⟨a1, a2⟩ := h4 j hj
   exact ⟨Nat.lt_of_lt_of_le a1 hs, a2⟩
  ·refine ⟨hj2, fun hf => ?_, ?_, fun i hi hb => ?_⟩
   ·have := h1.lt j hf
    omega
   ·have := lt_of_block h1.blk
    omega
   ·have := h1.row_lt hi hb
    omega
theorem Still.more_vs {w : World} {h : Hist} (k : Still w h) (l : List (Value × Nat × Int)) (ho : ∀ x ∈ l, w.ownsRow 0 51 2 x.1 x.2.1 (repL (mV x.2.2) x.2.1)) : Still w { h with vs := h.vs ++ l } :=
 ⟨k.ps, k.ns, fun x hx => by
  rcases List.mem_append.1 hx with hx | hx
  ·exact k.vs x hx
  ·exact ho x hx, k.ls⟩
theorem rowX_vs (h : Hist) (l : List (Value × Nat × Int)) : ∀ i, i < 6 → updX (updX (rowX h) 2 (rowX h 2 ++ l.map fun x => x.1)) 5 (updX (rowX h) 2 (rowX h 2 ++ l.map fun x => x.1) 5 ++ l.map fun x => .int .i64 x.2.2) i = rowX { h with vs := h.vs ++ l } i := by
 intro i hi
 rcases (by omega : i = 0 ∨ i = 1 ∨ i = 2 ∨ i = 3 ∨ i = 4 ∨ i = 5) with rfl | rfl | rfl | rfl | rfl | rfl <;> simp [updX, rowX]
theorem LawG.count {w : World} {g : Nat} {rx : Nat → List Value} {h : Hist} {X F : Nat → Prop} {r : Nat → LRow} (k : LawG w g rx h X F r) {i : Nat} (hi : i < 6) (hz : wsz i = 1) : (r i).n = (rx i).length := by
 have := (k.1.own i hi).1
 rw [k.2.1 i hi, hz] at this
 omega
def OV (g : Nat) (h : Hist) (F : Nat → Prop) (r : Nat → LRow) (m : Int) (us : List (Value × Nat)) (W : World) : Prop :=
 ∃ X, LawG W g (rowX h) h X F r ∧ ∀ u ∈ us, W.ownsRow g 51 2 u.1 u.2 (repL (mV m) u.2) ∧ ∀ b, u.1.ownBlock = some b → X b
theorem OV.below {g : Nat} {h : Hist} {F : Nat → Prop} {r : Nat → LRow} {m : Int} {us : List (Value × Nat)} {W W' : World} (k : OV g h F r m us W) (b : Below W.heap.size W W') : OV g h F r m us W' := by
 obtain ⟨X, k1, k2⟩ := k
 exact ⟨X, k1.below b, fun u hu => ⟨owns_below (k2 u hu).1 b, (k2 u hu).2⟩⟩
theorem OV.app {g : Nat} {h : Hist} {F : Nat → Prop} {r : Nat → LRow} {m : Int} {us : List (Value × Nat)} {W w7 : World} (k : OV g h F r m us W) {l : Value} {n q gg cap H : Nat} (hl : (l, n) ∈ us)
  (hown : w7.ownsRow g 51 2 (.slice (some ⟨gg, 0, none⟩) (n + q) cap) (n + q) (repL (mV m) n ++ repL (mV m) q)) (hg : W.grownBy w7 l.ownBlock) (hat : l.ownBlock = some gg ∨ gg = H) (hH : W.heap.size = H)
  (hr : ∀ j, l.ownBlock = some j → ∀ cur, W.heap[j]? = some (.cells cur 51 (0, 0)) → n * 2 + (repL (mV m) q).length ≤ cur.size ∧ w7.heap[j]? = some (.cells (cur.toList.take (n * 2) ++ repL (mV m) q ++ cur.toList.drop (n * 2 + (repL (mV m) q).length)).toArray 51 (0, 0)) ∨ w7.heap[j]? = W.heap[j]?) :
  OV g h F r m (us ++ [(.slice (some ⟨gg, 0, none⟩) (n + q) cap, n + q)]) w7 ∧ Below g W w7 := by
 obtain ⟨X, k1, k2⟩ := k
 have kl := k2 (l, n) hl
 have hX : ∀ j, j < W.heap.size → ¬ X j → w7.heap[j]? = W.heap[j]? := fun j hj hx => hg.block j hj (fun e => hx (kl.2 j e.symm))
 have hlt : gg < w7.heap.size := (hown.lt gg rfl).2
 refine ⟨⟨_, k1.grown hg.size hX, ?_⟩, ⟨hg.os, hg.tape, hg.output, hg.size, fun j hj => hg.block j (by have := lt_of_block k1.1.blk; omega) (fun e => by have := (kl.1.lt j e.symm).1; omega)⟩⟩
 intro u hu
 rcases List.mem_append.1 hu with hu | hu
 ·refine ⟨owns_rep (c := mV m) (m := q) kl.1 (k2 u hu).1 hg hr, fun b hb => Or.inl ((k2 u hu).2 b hb)⟩
 ·simp only [List.mem_singleton] at hu
  subst hu
  refine ⟨by simp only; rw [repL_add]; exact hown, fun b hb => ?_⟩
  simp only [Value.ownBlock, Option.some.injEq] at hb
  subst hb
  rcases hat with e | e
  ·exact Or.inl (kl.2 _ e)
  ·exact Or.inr ⟨by omega, hlt⟩
theorem OV.put {g : Nat} {h : Hist} {F : Nat → Prop} {r : Nat → LRow} {m : Int} {us : List (Value × Nat)} {W w7 : World} (k : OV g h F r m us W) {gg n' cap H : Nat} (hg : W.grownBy w7 (r 2).v.ownBlock)
  (hown : w7.ownsRow g 47 1 (.slice (some ⟨gg, 0, none⟩) n' cap) n' (rowX h 2 ++ us.map fun u => u.1)) (hat : (r 2).v.ownBlock = some gg ∨ gg = H) (hH : W.heap.size = H) :
  ∃ X' F', LawG (w7.setCell ⟨g, 2, none⟩ (.slice (some ⟨gg, 0, none⟩) n' cap)) g (updX (rowX h) 2 (rowX h 2 ++ us.map fun u => u.1)) { h with vs := h.vs ++ us.map fun u => (u.1, u.2, m) } X' F' (updR r 2 ⟨.slice (some ⟨gg, 0, none⟩) n' cap, n', rowX h 2 ++ us.map fun u => u.1⟩) ∧
  Below g W (w7.setCell ⟨g, 2, none⟩ (.slice (some ⟨gg, 0, none⟩) n' cap)) := by
 obtain ⟨X, k1, k2⟩ := k
 obtain ⟨a1, a2, _⟩ := k1.push (i := 2) (E := fun j => ∃ u ∈ us, u.1.ownBlock = some j) (h' := { h with vs := h.vs ++ us.map fun u => (u.1, u.2, m) }) (by omega) hg hown hat hH (fun j ⟨u, hu, hj⟩ => (k2 u hu).2 j hj) (fun w' hs hF =>
  Still.more_vs (k1.2.2.1 w' hs (fun j hj => hF j (Or.inl hj))) _ (fun x hx => by
   obtain ⟨u, hu, rfl⟩ := List.mem_map.1 hx
   exact owns_zero (owns_same (k2 u hu).1 (fun b hb => hF b (Or.inr ⟨u, hu, hb⟩)))))
 exact ⟨_, _, a1, a2⟩
end Go.Proofs.YtdgbmcbkbkbdoaaGreatDoor
