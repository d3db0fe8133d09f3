import Derived.Test.YtdgbmcbkbkbdoaaGreatDoorCkA
import Derived.Test.YtdgbmcbkbkbdoaaGreatDoorRgD
import Derived.Test.YtdgbmcbkbkbdoaaGreatDoorFcA
namespace Go.Proofs.YtdgbmcbkbkbdoaaGreatDoor
open Go.RowKit
theorem SlAt.len_le {w : World} {size : Nat} {v : Value} {n : Nat} {xs : List Value} (h : SlAt w size v n xs) : n ≤ 9223372036854775807 := by
 rcases h with ⟨h0, _⟩ | ⟨g, cap, _, h1, h2, _⟩
 ·omega
 ·unfold maxLen at h2; omega
theorem SlAt.at1 {w : World} {ao : Option Addr} {n cap : Nat} {xs : List Value} (h : SlAt w 1 (.slice ao n cap) n xs) {j : Nat} (hj : j < n) : ∃ g, ao = some ⟨g, 0, none⟩ ∧ w.cell? ⟨g, j, none⟩ = xs[j]? ∧ g < w.heap.size := by
 rcases h with ⟨h0, _⟩ | ⟨g, cap', hv, h1, h2, h3, h4⟩
 ·omega
 ·simp only [Value.slice.injEq] at hv
  exact ⟨g, hv.1, h4 j (by omega), h3⟩
theorem SlAt.at2 {w : World} {ao : Option Addr} {n cap : Nat} {xs : List Value} (h : SlAt w 2 (.slice ao n cap) n xs) {j : Nat} (hj : j < n) : ∃ g, ao = some ⟨g, 0, none⟩ ∧ w.cell? ⟨g, j * 2, none⟩ = xs[j * 2]? ∧ w.cell? ⟨g, j * 2 + 1, none⟩ = xs[j * 2 + 1]? ∧ g < w.heap.size := by
 rcases h with ⟨h0, _⟩ | ⟨g, cap', hv, h1, h2, h3, h4⟩
 ·omega
 ·simp only [Value.slice.injEq] at hv
  exact ⟨g, hv.1, h4 _ (by omega), h4 _ (by omega), h3⟩
def InSl (w : World) (v : Value) (vals : List Int) : Prop :=
 (vals = [] ∧ ∃ ao cap, v = .slice ao 0 cap) ∨ ∃ g off cap, v = .slice (some ⟨g, off, none⟩) vals.length cap ∧ vals.length ≤ cap ∧ cap ≤ maxLen ∧ g < w.heap.size ∧ ∀ j x, vals[j]? = some x → w.cell? ⟨g, off + j, none⟩ = some (.int .i64 x)
theorem InSl.form {w : World} {v : Value} {vals : List Int} (h : InSl w v vals) : ∃ ao cap, v = .slice ao vals.length cap := by
 rcases h with ⟨rfl, ao, cap, rfl⟩ | ⟨g, off, cap, rfl, _⟩
 ·exact ⟨ao, cap, rfl⟩
 ·exact ⟨_, _, rfl⟩
theorem InSl.below {w w' : World} {v : Value} {vals : List Int} (h : InSl w v vals) (b : Below w.heap.size w w') : InSl w' v vals := by
 rcases h with h | ⟨g, off, cap, h1, h2, h3, h4, h5⟩
 ·exact Or.inl h
 ·exact Or.inr ⟨g, off, cap, h1, h2, h3, Nat.lt_of_lt_of_le h4 b.size, fun j x hx => by rw [b.cell (p := ⟨g, off + j, none⟩) h4]; exact h5 j x hx⟩
theorem InSl.at {w : World} {ao : Option Addr} {n cap : Nat} {vals : List Int} (h : InSl w (.slice ao n cap) vals) {j : Nat} (hj : j < vals.length) : ∃ g off, ao = some ⟨g, off, none⟩ ∧ w.cell? ⟨g, off + j, none⟩ = some (.int .i64 vals[j]) ∧ g < w.heap.size := by
 rcases h with ⟨h0, _⟩ | ⟨g, off, cap', hv, h1, h2, h3, h4⟩
 ·rw [h0] at hj; simp at hj
 ·simp only [Value.slice.injEq] at hv
  exact ⟨g, off, hv.1, h4 j vals[j] (by simp [hj]), h3⟩
end Go.Proofs.YtdgbmcbkbkbdoaaGreatDoor
namespace Go.Proofs.YtdgbmcbkbkbdoaaGreatDoor
open Go.RowKit
theorem named_place {its : List PItem} {nm : ByteArray} : (namedP its nm = true ∧ ∃ i : Nat, placeP its nm = (i : Int) ∧ i < its.length) ∨ (namedP its nm = false ∧ placeP its nm = -1) := by
 cases h : namedP its nm with
 | true => exact Or.inl ⟨rfl, placeP_in h⟩
 | false => exact Or.inr ⟨rfl, placeP_out h⟩
set_option maxRecDepth 100000 in
set_option maxHeartbeats 800000 in
theorem rLabel_any (g : Nat) (its : List PItem) (nm : ByteArray) (w : World) (h : RPlanAt w g its) :
  Calls Tryz.prog 48 #[.pointer (some ⟨g, 0, none⟩), .string nm] w fun e w' => e = .returned (.tuple #[.int .i64 (labelP its nm).1, .int .i64 (labelP its nm).2]) ∧ Below w.heap.size w w' := by
 have HP := hide h
 obtain ⟨v, xs, hN, hit, hxs, hwf, hok⟩ := h
 obtain ⟨ao, cap, rfl⟩ := hit.1.form
 have hlen : xs.length ≤ 12 := by have := hok.len; rw [← hxs] at this; simpa using this
 have c0 : w.cell? ⟨g, 0, none⟩ = some (.slice ao xs.length cap) := by simp [World.cell?, hN]
 have hgl := lt_of_block hN
 have HI := hide hit
 have HX := hide hxs
 clear hN hit hwf hok hxs
 rcases named_place (its := its) (nm := nm) with ⟨h1, i, h2, h3⟩ | ⟨h1, h2⟩
 ·have HE : Hid (labelP its nm = ((((labsP its).getD i 0 : Nat) : Int), 0)) := hide (by unfold labelP; rw [if_pos h1, h2, Int.toNat_natCast])
  have H2 := hide h2
  have hic : ¬ (i : Int) < 0 := by omega
  clear h1 h2
  go_enter Tryz.func48, Tryz.ntmps48
  go_wp2_with fail
  refine (rplace_any _ xs nm _ (uh HI) (by omega)).mono ?_
  rintro e w1 ⟨rfl, hb1⟩
  rw [uh HX, uh H2]
  have HB1 := hide hb1
  have HP1 := hide ((uh HP).below hb1)
  clear hb1
  go_wp2_with fail
  refine (rlabel_any g its i _ (uh HP1) h3).mono ?_
  rintro e w2 ⟨rfl, hb2⟩
  have HB2 := hide (below_after (uh HB1) hb2)
  clear hb2
  go_wp2_with fail
  go_ret2
  rw [uh HE]
  exact ⟨rfl, uh HB2⟩
 ·have HE : Hid (labelP its nm = (0, 4)) := hide (by unfold labelP; rw [h1]; rfl)
  have H2 := hide h2
  clear h1 h2
  go_enter Tryz.func48, Tryz.ntmps48
  go_wp2_with fail
  refine (rplace_any _ xs nm _ (uh HI) (by omega)).mono ?_
  rintro e w1 ⟨rfl, hb1⟩
  rw [uh HX, uh H2]
  have HB1 := hide hb1
  clear hb1
  go_wp2_with fail
  go_ret2
  rw [uh HE]
  exact ⟨rfl, uh HB1⟩
set_option maxRecDepth 100000 in
set_option maxHeartbeats 1600000 in
theorem rcolumns_any (g : Nat) (its : List PItem) (x : LItem) (bv : Value) (vs : List PVal) (w : World) (h : RPlanAt w g its) (hx : RItemV w x) (hc3 : x.it.cols.length ≤ 3) (hvs : SlAt w 2 bv vs.length (vs.flatMap vcells)) (_hvl : vs.length ≤ 12)
  (hah : ∀ c ∈ x.it.cols, ∃ i : Nat, placeP its c = (i : Int) ∧ i < vs.length) :
  Calls Tryz.prog 106 #[.pointer (some ⟨g, 0, none⟩), riv x, bv] w fun e w' => ∃ v, e = .returned v ∧ Below w.heap.size w w' ∧ w'.ownsRow w.heap.size 51 2 v (colVals its vs x.it).length ((colVals its vs x.it).flatMap vcells) := by
 obtain ⟨pv, xs, hN, hit, hxs, hwf, hok⟩ := h
 obtain ⟨⟨nm, bT, mk, po, cs, dr, rl⟩, cv, rv, zv⟩ := x
 obtain ⟨bo, bcap, rfl⟩ := hvs.form
 obtain ⟨po', pcap, rfl⟩ := hit.1.form
 obtain ⟨co, cc, hcv⟩ := hx.2.1.form
 obtain ⟨ro, rc, hrv⟩ := hx.2.2.1.form
 have hcs := hx.2.1
 have hlen : xs.length ≤ 12 := by have := hok.len; rw [← hxs] at this; simpa using this
 simp only at hcv hrv hcs hc3 hah
 subst hcv hrv
 simp only [riv, ricells, rmarks, rdrops]
 obtain ⟨mi, hmi⟩ : ∃ mi : Int, (if bT = true then (dr : Int) else (mk : Int)) = mi := ⟨_, rfl⟩
 obtain ⟨db, hdb⟩ : ∃ db, (bT && decide (dr ≠ 0)) = db := ⟨_, rfl⟩
 rw [hmi, hdb]
 clear hmi hdb
 have hcvl : ∀ j, j ≤ cs.length → ((cs.take j).map fun c => vs.getD (placeP its c).toNat PVal.zero).length = j := fun j hj => by simp; omega
 obtain ⟨f, hf⟩ : ∃ f, (fun c => vs.getD (placeP its c).toNat PVal.zero) = f := ⟨_, rfl⟩
 have hcvs : colVals its vs ⟨nm, bT, mk, po, cs, dr, rl⟩ = cs.map f := by rw [← hf]; rfl
 rw [hcvs]
 rw [hf] at hcvl
 have HF := hide hf
 have HN := hide hN
 have HI := hide hit
 have HX := hide hxs
 have HC := hide hcs
 have HW := hide hvs
 have HAH := hide hah
 have HCL := hide hcvl
 clear hN hit hxs hwf hok hcs hvs hah hx hf hcvs hcvl
 obtain ⟨i0, hi, hz0, hz1, hz2⟩ := info_parts Tryz.info_value
 obtain ⟨w1, hw1⟩ : ∃ w1, w1 = w.alloc (.cells #[.string nm, .int .i64 mi, .int .u8 po, .bool db, .slice co cs.length cc, .slice ro rl.length rc] 134) := ⟨_, rfl⟩
 have HB1 : Hid (Below w.heap.size w w1) := hide (by rw [hw1]; exact (Below.refl _ w).alloc (Nat.le_refl _) _)
 have HN1 : Hid (w1.heap[w.heap.size]? = some (.cells #[.string nm, .int .i64 mi, .int .u8 po, .bool db, .slice co cs.length cc, .slice ro rl.length rc] 134)) := hide (by rw [hw1]; exact alloc_last w _)
 go_enter Tryz.func106, Tryz.ntmps106
 go_wp2_with fail
 rw [← hw1]
 clear hw1
 go_loopg [7, 8] cs.length (fun gk pv i wr => ∃ j : Nat, j ≤ cs.length ∧ gk = cs.length - j ∧ i = .int .i64 (j : Int) ∧ Below w1.heap.size w1 wr ∧ wr.ownsRow w1.heap.size 51 2 pv j (((cs.take j).map f).flatMap vcells))
 case atStart => exact ⟨0, by omega, rfl, rfl, Below.refl _ _, World.ownsRow_nil _ _ _ _⟩
 case round =>
  obtain ⟨j, hj, hg, rfl, hb, hown⟩ := hrel
  have A : Aside (gk = cs.length - j ∧ Below w1.heap.size w1 wr ∧ wr.ownsRow w1.heap.size 51 2 u7 j (((cs.take j).map f).flatMap vcells)) := ⟨hg, hb, hown⟩
  have hNr := (hb.block _ (lt_of_block (uh HN1))).trans (uh HN1)
  obtain ⟨e0, e1, e2, e3, e4, e5⟩ := cells6b hNr
  have hse := lt_of_block hNr
  have hbw := below_after (uh HB1) hb
  have hsz := hb.size
  clear hg hown e0 e1 e2 e3 e5 hNr
  by_cases hlt : j < cs.length
  ·have bw := uh HB1
   have hNg := (bw.block g (lt_of_block (uh HN))).trans (uh HN)
   have c0 : w1.cell? ⟨g, 0, none⟩ = some (.slice po' xs.length pcap) := by simp [World.cell?, hNg]
   have hgs := lt_of_block hNg
   obtain ⟨gc, rfl, cc0, hgc⟩ := ((uh HC).below bw).at1 hlt
   rw [show (cs.map Value.string)[j]? = some (.string cs[j]) by simp [hlt]] at cc0
   obtain ⟨i', hpl, hi'⟩ := uh HAH cs[j] (List.getElem_mem hlt)
   have HIW : Hid (RItemsV wr (.slice po' xs.length pcap) xs) := hide ⟨(uh HI).1.below hbw, fun x hx => ((uh HI).2 x hx).below hbw⟩
   obtain ⟨g3, rfl, l0, l1, hg3⟩ := ((uh HW).below bw).at2 hi'
   have hv0 := flat_at vcells 2 (fun _ => rfl) vs i' 0 hi' (by omega)
   have hv1 := flat_at vcells 2 (fun _ => rfl) vs i' 1 hi' (by omega)
   rw [Nat.add_zero] at hv0
   rw [hv0] at l0
   rw [hv1] at l1
   simp only [vcells, List.getElem?_cons_zero, List.getElem?_cons_succ] at l0 l1
   obtain ⟨_, _, _, _, e4, _⟩ := cells6b (uh HN1)
   have hse := lt_of_block (uh HN1)
   have hfv : f cs[j] = vs[i'] := by rw [← uh HF]; simp only; rw [hpl, Int.toNat_natCast, getD_at _ _ hi']
   have HST : Hid (((cs.take (j + 1)).map f).flatMap vcells = ((cs.take j).map f).flatMap vcells ++ [.int .i64 vs[i'].kind, .int .i64 vs[i'].n]) := hide (by
    rw [List.take_succ_eq_append_getElem hlt, List.map_append, List.flatMap_append, List.map_cons, hfv]
    rfl)
   have hjc : (j : Int) < cs.length := by omega
   have hic : (i' : Int) < vs.length := by omega
   have HPL := hide hpl
   clear hfv hpl hv0 hv1
   generalize vs[i'] = y at *
   obtain ⟨y0, y1⟩ := y
   generalize cs[j] = c at *
   simp only at l0 l1 HST
   have HCE : Hid (∀ w', Below w1.heap.size w1 w' → w'.cell? ⟨g, 0, none⟩ = some (.slice po' xs.length pcap) ∧ w'.cell? ⟨w.heap.size, 4, none⟩ = some (.slice (some ⟨gc, 0, none⟩) cs.length cc) ∧ w'.cell? ⟨gc, j, none⟩ = some (.string c) ∧ w'.cell? ⟨g3, i' * 2, none⟩ = some (.int .i64 y0) ∧ w'.cell? ⟨g3, i' * 2 + 1, none⟩ = some (.int .i64 y1)) := hide (fun w' hb' => ⟨(hb'.cell (p := ⟨g, 0, none⟩) hgs).trans c0, (hb'.cell (p := ⟨w.heap.size, 4, none⟩) hse).trans e4, (hb'.cell (p := ⟨gc, j, none⟩) hgc).trans cc0, (hb'.cell (p := ⟨g3, i' * 2, none⟩) hg3).trans l0, (hb'.cell (p := ⟨g3, i' * 2 + 1, none⟩) hg3).trans l1⟩)
   have hgs' : g < wr.heap.size := by omega
   have hse' : w.heap.size < wr.heap.size := by omega
   have hgc' : gc < wr.heap.size := by omega
   have hg3' : g3 < wr.heap.size := by omega
   clear c0 e4 cc0 l0 l1 hNg
   obtain ⟨c0, e4, cc0, l0, l1⟩ := uh HCE _ hb
   clear hb hbw bw
   go_wp2_with fail
   go_region_held3 (fun w' => w'.cell? ⟨g, 0, none⟩ = some (.slice po' xs.length pcap) ∧ w'.cell? ⟨w.heap.size, 4, none⟩ = some (.slice (some ⟨gc, 0, none⟩) cs.length cc) ∧ w'.cell? ⟨gc, j, none⟩ = some (.string c) ∧ w'.cell? ⟨g3, i' * 2, none⟩ = some (.int .i64 y0) ∧ w'.cell? ⟨g3, i' * 2 + 1, none⟩ = some (.int .i64 y1)) (go_keep) (first | (go_at_call 67; refine (rplace_any _ xs c _ (by exact ⟨(uh HIW).1.below (by exact (Below.refl _ _).drew), fun x hx => ((uh HIW).2 x hx).below (by exact (Below.refl _ _).drew)⟩) (by omega)).mono ?_; rintro e w5 ⟨rfl, hb5⟩; rw [uh HX, uh HPL]; have HB5 := hide (below_after A.out.2.1 (below_of_drew hb5)); obtain ⟨z0, z1, z2, z3, z4⟩ := uh HCE _ (uh HB5); have hs5 := (below_of_drew hb5).size; have hs6 := (uh HB5).size; have HO5 := hide (owns_below A.out.2.2 (below_of_drew hb5)); clear hb5) | (refine step_append_lies _ (by rfl) _ _ _ (by rfl) w1.heap.size 51 i0 _ 2 16 Tryz.underlying47 hi hz0 hz1 hz2 rfl (by decide) u7 j (((cs.take j).map f).flatMap vcells) (by rfl) ((uh HO5).alloc _) ⟨w5.heap.size, 0, none⟩ 1 1 [.int .i64 y0, .int .i64 y1] (by rfl) (by rfl) (World.news_of_block (cs := #[.int .i64 y0, .int .i64 y1]) (t := 51) (fr := (0, 0)) (heap_alloc_new w5 _)) (by simp [Value.oneCell']) (by decide) (by unfold maxLen; omega) (by omega) (by simp; omega) (w5.heap.size + 1) (by simp) ?_; intro gg cap w7 hown7 hgrow7 hat7 hlt7; have AB := hide (And.intro (below_grown ((uh HB5).alloc hs6 _) hgrow7 (fun q hq => (A.out.2.2.lt q hq).1)) hown7); obtain ⟨x0, x1, x2, x3, x4⟩ := uh HCE _ (uh AB).1; clear hown7 hgrow7 hat7 hlt7))
   go_wp2_with fail
   go_roundg (cs.length - (j + 1))
   case measure => have := A.out.1; omega
   case rel => exact ⟨j + 1, by omega, rfl, by go_num, (uh AB).1, by rw [uh HST]; exact (uh AB).2⟩
  ·have hje : j = cs.length := by omega
   have HJ := hide hje
   have hjc : ¬ (j : Int) < cs.length := by omega
   clear hje hb
   go_wp2_with fail
   go_ret
   obtain ⟨_, a2, a3⟩ := A.out
   rw [uh HJ, List.take_length] at a3
   refine ⟨_, rfl, below_after (uh HB1) a2, ?_⟩
   exact owns_base a3 (uh HB1).size
end Go.Proofs.YtdgbmcbkbkbdoaaGreatDoor
