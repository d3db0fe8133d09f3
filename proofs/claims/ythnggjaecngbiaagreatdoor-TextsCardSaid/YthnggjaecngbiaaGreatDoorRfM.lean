import Derived.Test.YthnggjaecngbiaaGreatDoorRfJ
import Derived.OwnWalk
import Derived.Test.YthnggjaecngbiaaGreatDoorFaB
namespace Go.Proofs.YthnggjaecngbiaaGreatDoor
open Go.RowKit
def RItemsAt (base : Nat) (w : World) (v : Value) (xs : List LItem) : Prop :=
 w.ownsRow base 141 6 v xs.length (xs.flatMap ritCells) ∧ ∀ x ∈ xs, RItemAt base w x
theorem RItemsV.of_at {w : World} {base : Nat} {v : Value} {xs : List LItem} (h : RItemsAt base w v xs) : RItemsV w v xs :=
 ⟨SlAt.of_owns h.1, fun x hx => RItemV.of_at (h.2 x hx)⟩
theorem RItemAt.keep {w w' : World} {base : Nat} {x : LItem} (h : RItemAt base w x) (k : ∀ (g : Nat) (c : Array Value) (e : TypeId), e = 9 ∨ e = 179 ∨ e = 181 → base ≤ g → w.heap[g]? = some (.cells c e) → w'.heap[g]? = w.heap[g]?) : RItemAt base w' x :=
 ⟨h.1, h.2.keep k⟩
theorem RItemAt.mv {b : Nat} {w w' : World} {base : Nat} {x : LItem} (h : RItemAt base w x) (g : Mv b w w') (hb : b < base) : RItemAt base w' x :=
 h.keep (fun j _ _ _ hj hh => g.block j (lt_of_block hh) (by omega))
theorem RItemsAt.below {w w' : World} {base : Nat} {v : Value} {xs : List LItem} (h : RItemsAt base w v xs) (g : Below w.heap.size w w') : RItemsAt base w' v xs :=
 ⟨owns_keep h.1 (fun j _ _ hh => g.block j (lt_of_block hh)), fun x hx => (h.2 x hx).keep (fun j _ _ _ _ hh => g.block j (lt_of_block hh))⟩
theorem RItemsAt.mv {b : Nat} {w w' : World} {base : Nat} {v : Value} {xs : List LItem} (h : RItemsAt base w v xs) (g : Mv b w w') (hb : b < base) : RItemsAt base w' v xs :=
 ⟨owns_mv h.1 g hb, fun x hx => (h.2 x hx).mv g hb⟩
theorem RItemsAt.push {w w' : World} {base : Nat} {v v' : Value} {xs : List LItem} {x : LItem} {o : Obj} {n : Nat} (h : RItemsAt base w v xs) (hx : RItemAt base w x) (g : (w.alloc o).grownBy w' v.ownBlock) (hv : w'.ownsRow base 141 6 v' n (xs.flatMap ritCells ++ ritCells x)) (hn : n = xs.length + 1) : RItemsAt base w' v' (xs ++ [x]) := by
 subst hn
 have keep : ∀ (gg : Nat) (c : Array Value) (e : TypeId), e = 9 ∨ e = 179 ∨ e = 181 → base ≤ gg → w.heap[gg]? = some (.cells c e) → w'.heap[gg]? = w.heap[gg]? := fun gg c e he _ hc => by
  have hne := owns_ne h.1 hc (by rcases he with rfl | rfl | rfl <;> decide)
  rw [g.block gg (by have := lt_of_block hc; simp; omega) (fun e => hne e.symm), Below.heap_alloc _ _ _ (lt_of_block hc)]
 refine ⟨by simpa using hv, ?_⟩
 intro y hy
 simp at hy
 rcases hy with hy | rfl
 ·exact (h.2 y hy).keep keep
 ·exact hx.keep keep
theorem inputR_next {s : ByteArray} {k : Nat} (hk : k ≤ s.size) : inputR s (nextP s k) = inputR s k := by
 unfold inputR; rw [nameR_next hk]
theorem tableR_next {s : ByteArray} {k : Nat} (hk : k ≤ s.size) : tableR s (nextP s k) = tableR s k := by
 unfold tableR; rw [nameR_next hk]
theorem itemsR_fuel (s : ByteArray) : ∀ (f g k : Nat) (its : List PItem), k ≤ s.size → s.size + 1 - k ≤ f → s.size + 1 - k ≤ g → itemsR s f k its = itemsR s g k its := by
 intro f
 induction f with
 | zero => intro g k it hk hf hg; omega
 | succ f ih =>
  intro g k its hk hf hg
  obtain ⟨g', rfl⟩ : ∃ g', g = g' + 1 := ⟨g - 1, by omega⟩
  simp only [itemsR]
  split
  ·rfl
  ·have hle := nextP_le hk
   have hge := nextP_ge s k
   cases hn : itemR s (nextP s k) with
   | inl p => rfl
   | inr tq =>
    obtain ⟨t, q⟩ := tq
    have hbd := itemR_bd hle hn
    exact ih g' q _ hbd.2 (by omega) (by omega)
theorem itemsR_next {s : ByteArray} {k : Nat} (hk : k ≤ s.size) (its : List PItem) : itemsR s (s.size + 1 - k) k its = itemsR s (s.size + 1 - nextP s k) (nextP s k) its := by
 have hle := nextP_le hk
 have hge := nextP_ge s k
 rw [itemsR_fuel s (s.size + 1 - nextP s k) (s.size + 1 - k) _ _ hle (by omega) (by omega)]
 obtain ⟨f, hf⟩ : ∃ f, s.size + 1 - k = f + 1 := ⟨s.size - k, by omega⟩
 rw [hf]
 simp only [itemsR]
 rw [nextP_idem hk]
theorem itemsR_end {s : ByteArray} {its : List PItem} (hb : nextP s s.size = s.size) : itemsR s (s.size + 1 - s.size) s.size its = .inr its := by
 rw [show s.size + 1 - s.size = 1 by omega]
 simp only [itemsR]
 rw [hb, if_pos rfl]
theorem itemsR_no {s : ByteArray} {k p : Nat} {its : List PItem} (hk : k < s.size) (hb : nextP s k = k) (h : itemR s k = .inl p) : itemsR s (s.size + 1 - k) k its = .inl p := by
 obtain ⟨f, hf⟩ : ∃ f, s.size + 1 - k = f + 1 := ⟨s.size - k, by omega⟩
 rw [hf]
 simp only [itemsR]
 rw [hb, if_neg (by omega), h]
theorem itemsR_step {s : ByteArray} {k q : Nat} {its : List PItem} {it : PItem} (hk : k < s.size) (hb : nextP s k = k) (h : itemR s k = .inr (it, q)) : itemsR s (s.size + 1 - k) k its = itemsR s (s.size + 1 - nextP s q) (nextP s q) (its ++ [it]) := by
 obtain ⟨f, hf⟩ : ∃ f, s.size + 1 - k = f + 1 := ⟨s.size - k, by omega⟩
 have hbd := itemR_bd (by omega) h
 rw [← itemsR_next hbd.2, hf]
 simp only [itemsR]
 rw [hb, if_neg (by omega), h]
 exact itemsR_fuel s _ _ _ _ hbd.2 (by omega) (by omega)
def parseR (s : ByteArray) : Sum (Nat × Int) (List PItem) :=
 if 1000 < s.size then .inl (0, 2) else
 match planR s with
 | .inl p => .inl (p, 1)
 | .inr its => if (checkR its).2 = 0 then .inr its else .inl (checkR its)
def longI (it : PItem) : Bool := decide (3 < it.cols.length) || decide (8 < it.rules.length)
theorem any_or {α : Type} (p q : α → Bool) : ∀ (l : List α), l.any (fun x => p x || q x) = (l.any p || l.any q)
 | [] => rfl
 | x :: l => by simp only [List.any_cons, any_or p q l]; cases p x <;> cases q x <;> cases l.any p <;> rfl
theorem farRule_eq (r : PRule) : farRule r = ruleBeyond r := by
 unfold farRule ruleBeyond
 rw [Bool.or_comm]
 rfl
theorem beyond_eq (its : List PItem) : (its.any farItem || decide (12 < its.length) || its.any longI) = beyondB its := by
 unfold beyondB
 have h : its.any itemBeyond = (its.any longI || its.any farItem) := by
  rw [← any_or]
  congr 1
  funext it
  unfold itemBeyond longI farItem
  congr 2
  funext r
  exact (farRule_eq r).symm
 rw [h]
 cases its.any farItem <;> cases decide (12 < its.length) <;> cases its.any longI <;> rfl
theorem Tryz.info_ritem : (Tryz.prog.info? 141).map (fun i => (i.zero, i.size, i.bytes)) = some (some (.agg #[.string ByteArray.empty, .int .i64 0, .int .u8 0, .bool false, .slice none 0 0, .slice none 0 0]), 6, 80) := by kernel_rfl
structure XI (b : Nat) (s : ByteArray) (m : Nat) (bad far : Bool) (w wr : World) : Prop where
 mv : Mv b w wr
 rr : RR b s m bad far wr
 hb : b < w.heap.size
 r1 : wr.heap[w.heap.size]? = some (.cells IR.zero.cells 141)
theorem XI.start {b : Nat} {s : ByteArray} {m : Nat} {bad far : Bool} {w : World} (hr : RR b s m bad far w) (o : Obj) (e : o = .cells IR.zero.cells 141) : XI b s m bad far w (w.alloc o) :=
 ⟨(Mv.refl _ _).alloc _, hr.keep (Below.heap_alloc _ _ _ hr.lt), hr.lt, by rw [alloc_last, e]⟩
theorem XI.moved {b : Nat} {s : ByteArray} {m m' : Nat} {bad bad' far far' : Bool} {w wr wr' : World} (h : XI b s m bad far w wr) (g : Mv b wr wr') (r : RR b s m' bad' far' wr') : XI b s m' bad' far' w wr' :=
 ⟨h.mv.trans g, r, h.hb, by rw [g.block _ (lt_of_block h.r1) (by have := h.hb; omega)]; exact h.r1⟩
def put6 (w : World) (N : Nat) (v0 v1 v2 v3 v4 v5 : Value) : World :=
 (((((w.setCell ⟨N, 0, none⟩ v0).setCell ⟨N, 1, none⟩ v1).setCell ⟨N, 2, none⟩ v2).setCell ⟨N, 3, none⟩ v3).setCell ⟨N, 4, none⟩ v4).setCell ⟨N, 5, none⟩ v5
theorem XI.put {b : Nat} {s : ByteArray} {m : Nat} {bad far : Bool} {w wr : World} (h : XI b s m bad far w wr) (v0 v1 v2 v3 v4 v5 : Value) :
  Mv b w (put6 wr w.heap.size v0 v1 v2 v3 v4 v5) ∧ RR b s m bad far (put6 wr w.heap.size v0 v1 v2 v3 v4 v5) ∧
  (∀ (g : Nat) (c : Array Value) (e : TypeId), e = 9 ∨ e = 179 ∨ e = 181 → wr.heap[g]? = some (.cells c e) → (put6 wr w.heap.size v0 v1 v2 v3 v4 v5).heap[g]? = wr.heap[g]?) := by
 have hb := h.hb
 have hl : ∀ i : Nat, w.heap.size ≤ (⟨w.heap.size, i, none⟩ : Addr).block := fun i => Nat.le_refl _
 have hne : ∀ i : Nat, b ≠ (⟨w.heap.size, i, none⟩ : Addr).block := fun i => by simp; omega
 unfold put6
 refine ⟨(((((h.mv.setNew (hl 0) v0).setNew (hl 1) v1).setNew (hl 2) v2).setNew (hl 3) v3).setNew (hl 4) v4).setNew (hl 5) v5, h.rr.keep ?_, fun g c e he hg => ?_⟩
 ·rw [Below.heap_setCell _ _ _ _ (hne 5), Below.heap_setCell _ _ _ _ (hne 4), Below.heap_setCell _ _ _ _ (hne 3), Below.heap_setCell _ _ _ _ (hne 2), Below.heap_setCell _ _ _ _ (hne 1), Below.heap_setCell _ _ _ _ (hne 0)]
 ·have hg0 : ∀ i : Nat, g ≠ (⟨w.heap.size, i, none⟩ : Addr).block := fun i eq => by
   simp at eq
   subst eq
   rw [h.r1] at hg
   simp at hg
   rcases he with rfl | rfl | rfl <;> exact absurd hg.2 (by decide)
  rw [Below.heap_setCell _ _ _ _ (hg0 5), Below.heap_setCell _ _ _ _ (hg0 4), Below.heap_setCell _ _ _ _ (hg0 3), Below.heap_setCell _ _ _ _ (hg0 2), Below.heap_setCell _ _ _ _ (hg0 1), Below.heap_setCell _ _ _ _ (hg0 0)]
theorem put6_size (w : World) (N : Nat) (v0 v1 v2 v3 v4 v5 : Value) : (put6 w N v0 v1 v2 v3 v4 v5).heap.size = w.heap.size := by
 unfold put6; simp [World.setCell]
theorem grown_rr {b : Nat} {s : ByteArray} {m : Nat} {bad far : Bool} {w w5 : World} {o : Obj} {row : Option Nat} (h : RR b s m bad far w) (g : (w.alloc o).grownBy w5 row) (hrow : ∀ j, row = some j → b < j) : RR b s m bad far w5 :=
 h.keep (by rw [g.block b (by have := h.lt; simp; omega) (fun e => by have := hrow b e.symm; omega), Below.heap_alloc _ _ _ h.lt])
theorem grown_mv {b : Nat} {w w1 w5 : World} {o : Obj} {row : Option Nat} (h : Mv b w w1) (g : (w1.alloc o).grownBy w5 row) (hrow : ∀ j, row = some j → w.heap.size ≤ j) : Mv b w w5 := (h.alloc o).grown g hrow
set_option maxRecDepth 100000 in
set_option maxHeartbeats 6400000 in
theorem rparse_any (s : ByteArray) (w : World) :
  Calls Tryz.prog 76 #[.string s] w fun e w' => (∃ n en, parseR s = .inl (n, en) ∧ e = .returned (.tuple #[.slice none 0 0, .int .i64 (n : Int), .int .i64 en]) ∧ Below w.heap.size w w') ∨ (∃ xs v, parseR s = .inr (xs.map LItem.it) ∧ e = .returned (.tuple #[v, .int .i64 (xs.length : Int), .int .i64 0]) ∧ Below w.heap.size w w' ∧ ∃ base, RItemsAt base w' v xs) := by
 obtain ⟨i0, hi, hz0, hz1, hz2⟩ := info_parts Tryz.info_ritem
 by_cases hs : s.size ≤ 1000
 case neg =>
  have hd : decide ((1000 : Int) < s.size) = true := by simp; omega
  go_enter Tryz.func76, Tryz.ntmps76
  go_wp2_with fail
  go_ret3
  exact Or.inl ⟨0, 2, by unfold parseR; rw [if_pos (by omega)], rfl, Below.refl _ _⟩
 have hd : decide ((1000 : Int) < s.size) = false := by simp; omega
 have HP : Hid (∀ r, planR s = r → parseR s = match r with | .inl p => .inl (p, 1) | .inr its => if (checkR its).2 = 0 then .inr its else .inl (checkR its)) := hide (fun r hr => by unfold parseR; rw [if_neg (by omega), hr])
 have HR0 : Hid (RR w.heap.size s 0 false false (w.alloc (.cells #[.string s, .int .i64 0, .bool false, .bool false] 173))) := hide (alloc_last w _)
 go_enter Tryz.func76, Tryz.ntmps76
 go_wp2_with fail
 refine (rblanks_ok _ s 0 false _ (uh HR0) hs (by omega)).mono ?_
 rintro e w1 ⟨rfl, hm1, hr1⟩
 have HM1 := hide hm1
 have HR1 := hide hr1
 clear hm1 hr1 HR0 hd
 go_wp2_with fail
 go_loopg [6] (s.size + 1 - nextP s 0) (fun g v wr => (∃ m xs, g = s.size + 1 - m ∧ m ≤ s.size ∧ xs.length ≤ m ∧ nextP s m = m ∧ planR s = itemsR s (s.size + 1 - m) m (xs.map LItem.it) ∧ Mv w.heap.size (w.alloc (.cells #[.string s, .int .i64 0, .bool false, .bool false] 173)) wr ∧ RR w.heap.size s m false ((xs.map LItem.it).any farItem) wr ∧ RItemsAt (w.heap.size + 1) wr v xs) ∨ (g = 0 ∧ ∃ p far', planR s = .inl p ∧ Mv w.heap.size (w.alloc (.cells #[.string s, .int .i64 0, .bool false, .bool false] 173)) wr ∧ RR w.heap.size s p true far' wr))
 case atStart => exact Or.inl ⟨nextP s 0, [], rfl, nextP_le (by omega), by simp, nextP_idem (by omega), by unfold planR; rw [show s.size + 1 = s.size + 1 - 0 by omega, itemsR_next (by omega)]; rfl, uh HM1, uh HR1, World.ownsRow_nil _ _ _ _, by simp⟩
 case round =>
  clear HM1 HR1
  rcases hrel with ⟨m, xs, hg, hm, hlen, hmm, hpl, hmv, hrd, hit⟩ | ⟨hg, p, far', hpl, hmv, hrd⟩
  case inr =>
   have b1 := hrd.at
   have b2 := hrd.badC
   have HF : Hid (parseR s = .inl (p, 1)) := hide (uh HP _ hpl)
   have HM := hide hmv
   clear hpl hmv hrd hg
   by_cases hlt : p < s.size
   ·have hd : decide ((p : Int) < s.size) = true := by simp; omega
    go_wp2_with fail
    go_quiet (fail)
    go_wp2_with fail
    go_ret3
    exact Or.inl ⟨p, 1, uh HF, rfl, ((uh HM).drewN _).below_of⟩
   ·have hd : decide ((p : Int) < s.size) = false := by simp; omega
    go_wp2_with fail
    go_quiet (fail)
    go_wp2_with fail
    go_ret3
    exact Or.inl ⟨p, 1, uh HF, rfl, ((uh HM).drewN _).below_of⟩
  case inl =>
   obtain ⟨lo, ln, lc, rfl⟩ := owns_form hit.1
   have b1 := hrd.at
   have b2 := hrd.badC
   have q2 := hrd.free 2
   have b3 := hrd.farC
   have A : Aside (gk = s.size + 1 - m ∧ planR s = itemsR s (s.size + 1 - m) m (xs.map LItem.it) ∧ Mv w.heap.size (w.alloc (.cells #[.string s, .int .i64 0, .bool false, .bool false] 173)) wr ∧ RR w.heap.size s m false ((xs.map LItem.it).any farItem) wr ∧ RItemsAt (w.heap.size + 1) wr (.slice lo ln lc) xs) := ⟨hg, hpl, hmv, hrd, hit⟩
   clear hg hpl hmv hrd hit
   by_cases hlt : m < s.size
   case pos =>
    have hd : decide ((m : Int) < s.size) = true := by simp; omega
    obtain ⟨x, hxe⟩ : ∃ x, x = s.extract m (lowEnd s m) := ⟨_, rfl⟩
    have HW : Hid (s.extract m (lowEnd s m) = x) := hide hxe.symm
    have hle := lowEnd_le hm
    have hge := lowEnd_ge s m
    have hps : m + x.size = lowEnd s m := by rw [hxe, ext_size hge hle]; omega
    clear hxe
    have HXS := hide (XI.start A.out.2.2.2.1 _ rfl)
    have hwr : w.heap.size + 1 ≤ wr.heap.size := by have h1 := A.out.2.2.1.size; simpa using h1
    cases e1 : (x.toList == [105, 110]) with
    | true =>
     have hlow1 : m + 1 ≤ lowEnd s m := by
      have h3 : x.toList.length = x.size := toList_len x
      have h4 : x.toList = [105, 110] := by simpa using e1
      rw [h4] at h3
      simp at h3
      omega
     have E1 := hide e1
     go_wp2_with (go_at_call 107; refine (rword_ok _ _ m _ _ (by exact A.out.2.2.2.1) hs hm).mono ?_; rintro e w2' ⟨rfl, hw2⟩; rw [uh HW]; have hw3 := hw2.symm; clear hw2; subst hw3)
     have HXI := HXS
     obtain ⟨⟨c0, c1, c2, c3, c4, c5⟩, f0, f1, f2, f3, f4, f5⟩ := cells6 (uh HXI).r1
     clear HXS
     refine (rpass_ok _ s m x _ _ (uh HXI).rr hs (by omega)).mono ?_
     rintro e w3 ⟨rfl, hm3, hr3⟩
     rw [hps] at hr3
     have HXJ := hide ((uh HXI).moved hm3 hr3)
     clear hm3 hr3 HXI c0 c1 c2 c3 c4 c5 f0 f1 f2 f3 f4 f5
     have HXI := HXJ
     clear HXJ
     go_wp2_with fail
     have hkl : nextP s (lowEnd s m) ≤ s.size := nextP_le hle
     refine (rinput_any _ s _ _ _ (uh HXI).rr hs hkl (nextP_idem hle)).mono ?_
     rintro e w4 (⟨p, hsp, ⟨nm, mk, po, dr, co, cn, cc, ro, rn, rc, rfl⟩, hm4, far', hr4⟩ | ⟨it, q, hsp, co, cn, cc, ro, rn, rc, vs, rfl, hm4, hr4, hia⟩)
     ·have HF : Hid (planR s = .inl p) := hide (by rw [A.out.2.1]; refine itemsR_no hlt hmm ?_; unfold itemR; rw [hmm, uh HW, if_pos (uh E1)]; rw [← inputR_next hle]; exact hsp)
      have HXJ := hide ((uh HXI).moved hm4 hr4)
      obtain ⟨⟨c0, c1, c2, c3, c4, c5⟩, f0, f1, f2, f3, f4, f5⟩ := cells6 (uh HXJ).r1
      have hput := (uh HXJ).put (.string nm) (.int .i64 mk) (.int .u8 po) (.bool dr) (.slice co cn cc) (.slice ro rn rc)
      have HLS := hide (A.out.2.2.2.2.mv hput.1 (by omega))
      have HPM := hide hput.1
      have HPR := hide hput.2.1
      have hw4 : w.heap.size + 1 ≤ w4.heap.size := by have h1 := A.out.2.2.1.size; have h2 := (uh HXJ).mv.size; simp at h1; omega
      have hNX := lt_of_block (uh HXJ).r1
      clear hsp hm4 hr4 HXI hput
      go_wp2_with (at_builtin; refine wpList_append_lies _ (by rfl) _ _ _ (by rfl) (w.heap.size + 1) 141 i0 _ 6 80 Tryz.underlying136 hi hz0 hz1 hz2 rfl (by decide) (.slice lo ln lc) xs.length (xs.flatMap ritCells) (by rfl) ((uh HLS).1.alloc _) ⟨w4.heap.size, 0, none⟩ 1 1 [.string nm, .int .i64 mk, .int .u8 po, .bool dr, .slice co cn cc, .slice ro rn rc] (by rfl) (by rfl) (World.news_of_block (cs := #[.string nm, .int .i64 mk, .int .u8 po, .bool dr, .slice co cn cc, .slice ro rn rc]) (t := 141) (fr := (0, 0)) (by have := heap_alloc_new (put6 w4 wr.heap.size (.string nm) (.int .i64 mk) (.int .u8 po) (.bool dr) (.slice co cn cc) (.slice ro rn rc)) (.cells #[.string nm, .int .i64 mk, .int .u8 po, .bool dr, .slice co cn cc, .slice ro rn rc] 141); rw [put6_size] at this; exact this)) (by simp [Value.oneCell']) (by decide) (by unfold maxLen; omega) (by omega) (by simp; omega) (w4.heap.size + 1) (by simp) ?_; intro gg cap w7 hown7 hgrow7 hat7 hlt7; have HQ : Hid (Mv w.heap.size (w.alloc (.cells #[.string s, .int .i64 0, .bool false, .bool false] 173)) w7 ∧ RR w.heap.size s p true far' w7) := hide ⟨grown_mv (A.out.2.2.1.trans (uh HPM)) hgrow7 (fun j hj => by have := ((uh HLS).1.lt j hj).1; simpa using this), grown_rr (uh HPR) hgrow7 (fun j hj => by have := ((uh HLS).1.lt j hj).1; omega)⟩; clear hown7 hgrow7 hat7 hlt7)
      go_roundg 0
      case measure => have := A.out.1; omega
      case rel => exact Or.inr ⟨rfl, p, far', uh HF, (uh HQ).1, (uh HQ).2⟩
     ·have hbd : lowEnd s m ≤ q ∧ q ≤ s.size := by
       have h1 : itemR s m = .inr (it, q) := by unfold itemR; rw [hmm, uh HW, if_pos (uh E1)]; rw [← inputR_next hle]; exact hsp
       have h2 := inputR_bd hkl hsp
       have h3 := nextP_ge s (lowEnd s m)
       omega
      have HF : Hid (planR s = itemsR s (s.size + 1 - nextP s q) (nextP s q) (xs.map LItem.it ++ [it])) := hide (by rw [A.out.2.1]; refine itemsR_step hlt hmm ?_; unfold itemR; rw [hmm, uh HW, if_pos (uh E1)]; rw [← inputR_next hle]; exact hsp)
      have HXJ := hide ((uh HXI).moved hm4 hr4)
      obtain ⟨⟨c0, c1, c2, c3, c4, c5⟩, f0, f1, f2, f3, f4, f5⟩ := cells6 (uh HXJ).r1
      have hput := (uh HXJ).put (.string it.name) (.int .i64 (rmarks it)) (.int .u8 it.policy) (.bool (rdrops it)) (.slice co cn cc) (.slice ro rn rc)
      have HLS := hide (A.out.2.2.2.2.mv hput.1 (by omega))
      have HPM := hide hput.1
      have HPR := hide hput.2.1
      have hw3 : w.heap.size + 1 ≤ w3.heap.size := by have h1 := A.out.2.2.1.size; have h2 := (uh HXI).mv.size; simp at h1; omega
      have HAS : Hid (RItemAt (w.heap.size + 1) (put6 w4 wr.heap.size (.string it.name) (.int .i64 (rmarks it)) (.int .u8 it.policy) (.bool (rdrops it)) (.slice co cn cc) (.slice ro rn rc)) ⟨it, .slice co cn cc, .slice ro rn rc, vs⟩) := hide (RItemAt.keep ⟨hia.1, hia.2.base hw3⟩ (fun g c e he _ hg => hput.2.2 g c e he hg))
      have hw4 : w.heap.size + 1 ≤ w4.heap.size := by have := hm4.size; omega
      have hNX := lt_of_block (uh HXJ).r1
      have hpq := nextP_le hbd.2
      have hgq := nextP_ge s q
      have hlm : m + 1 ≤ lowEnd s m := hlow1
      clear hsp hm4 hr4 HXI hput hia
      simp only [ricells]
      go_wp2_with (at_builtin; refine wpList_append_lies _ (by rfl) _ _ _ (by rfl) (w.heap.size + 1) 141 i0 _ 6 80 Tryz.underlying136 hi hz0 hz1 hz2 rfl (by decide) (.slice lo ln lc) xs.length (xs.flatMap ritCells) (by rfl) ((uh HLS).1.alloc _) ⟨w4.heap.size, 0, none⟩ 1 1 [.string it.name, .int .i64 (rmarks it), .int .u8 it.policy, .bool (rdrops it), .slice co cn cc, .slice ro rn rc] (by rfl) (by rfl) (World.news_of_block (cs := #[.string it.name, .int .i64 (rmarks it), .int .u8 it.policy, .bool (rdrops it), .slice co cn cc, .slice ro rn rc]) (t := 141) (fr := (0, 0)) (by have := heap_alloc_new (put6 w4 wr.heap.size (.string it.name) (.int .i64 (rmarks it)) (.int .u8 it.policy) (.bool (rdrops it)) (.slice co cn cc) (.slice ro rn rc)) (.cells #[.string it.name, .int .i64 (rmarks it), .int .u8 it.policy, .bool (rdrops it), .slice co cn cc, .slice ro rn rc] 141); rw [put6_size] at this; exact this)) (by simp [Value.oneCell']) (by decide) (by unfold maxLen; omega) (by omega) (by simp; omega) (w4.heap.size + 1) (by simp) ?_; intro gg cap w7 hown7 hgrow7 hat7 hlt7; have HQ : Hid (Mv w.heap.size (w.alloc (.cells #[.string s, .int .i64 0, .bool false, .bool false] 173)) w7 ∧ RR w.heap.size s (nextP s q) false ((xs.map LItem.it).any farItem || farItem it) w7) := hide ⟨grown_mv (A.out.2.2.1.trans (uh HPM)) hgrow7 (fun j hj => by have := ((uh HLS).1.lt j hj).1; simpa using this), grown_rr (uh HPR) hgrow7 (fun j hj => by have := ((uh HLS).1.lt j hj).1; omega)⟩; have HL7 := hide ((uh HLS).push (uh HAS) hgrow7 hown7 rfl); clear hown7 hgrow7 hat7 hlt7)
      go_roundg (s.size + 1 - nextP s q)
      case measure => have := A.out.1; omega
      case rel =>
       refine Or.inl ⟨nextP s q, xs ++ [⟨it, .slice co cn cc, .slice ro rn rc, vs⟩], rfl, hpq, by simp; omega, nextP_idem hbd.2, by simpa using uh HF, (uh HQ).1, by simpa using (uh HQ).2, uh HL7⟩
    | false =>
     cases e2 : (x.toList == [116, 97, 98, 108, 101]) with
     | true =>
      have hlow1 : m + 1 ≤ lowEnd s m := by
       have h3 : x.toList.length = x.size := toList_len x
       have h4 : x.toList = [116, 97, 98, 108, 101] := by simpa using e2
       rw [h4] at h3
       simp at h3
       omega
      have E1 := hide e1
      have E2 := hide e2
      go_wp2_with (go_at_call 107; refine (rword_ok _ _ m _ _ (by exact A.out.2.2.2.1) hs hm).mono ?_; rintro e w2' ⟨rfl, hw2⟩; rw [uh HW]; have hw3 := hw2.symm; clear hw2; subst hw3)
      have HXI := HXS
      obtain ⟨⟨c0, c1, c2, c3, c4, c5⟩, f0, f1, f2, f3, f4, f5⟩ := cells6 (uh HXI).r1
      clear HXS
      refine (rpass_ok _ s m x _ _ (uh HXI).rr hs (by omega)).mono ?_
      rintro e w3 ⟨rfl, hm3, hr3⟩
      rw [hps] at hr3
      have HXJ := hide ((uh HXI).moved hm3 hr3)
      clear hm3 hr3 HXI c0 c1 c2 c3 c4 c5 f0 f1 f2 f3 f4 f5
      have HXI := HXJ
      clear HXJ
      go_wp2_with fail
      have hkl : nextP s (lowEnd s m) ≤ s.size := nextP_le hle
      refine (rtable_any _ s _ _ _ (uh HXI).rr hs hkl (nextP_idem hle)).mono ?_
      rintro e w4 (⟨p, hsp, ⟨nm, mk, po, dr, co, cn, cc, ro, rn, rc, rfl⟩, hm4, far', hr4⟩ | ⟨it, q, hsp, co, cn, cc, ro, rn, rc, vs, rfl, hm4, hr4, hia⟩)
      ·have HF : Hid (planR s = .inl p) := hide (by rw [A.out.2.1]; refine itemsR_no hlt hmm ?_; unfold itemR; rw [hmm, uh HW, if_neg (by rw [uh E1]; simp), if_pos (uh E2)]; rw [← tableR_next hle]; exact hsp)
       have HXJ := hide ((uh HXI).moved hm4 hr4)
       obtain ⟨⟨c0, c1, c2, c3, c4, c5⟩, f0, f1, f2, f3, f4, f5⟩ := cells6 (uh HXJ).r1
       have hput := (uh HXJ).put (.string nm) (.int .i64 mk) (.int .u8 po) (.bool dr) (.slice co cn cc) (.slice ro rn rc)
       have HLS := hide (A.out.2.2.2.2.mv hput.1 (by omega))
       have HPM := hide hput.1
       have HPR := hide hput.2.1
       have hw4 : w.heap.size + 1 ≤ w4.heap.size := by have h1 := A.out.2.2.1.size; have h2 := (uh HXJ).mv.size; simp at h1; omega
       have hNX := lt_of_block (uh HXJ).r1
       clear hsp hm4 hr4 HXI hput
       go_wp2_with (at_builtin; refine wpList_append_lies _ (by rfl) _ _ _ (by rfl) (w.heap.size + 1) 141 i0 _ 6 80 Tryz.underlying136 hi hz0 hz1 hz2 rfl (by decide) (.slice lo ln lc) xs.length (xs.flatMap ritCells) (by rfl) ((uh HLS).1.alloc _) ⟨w4.heap.size, 0, none⟩ 1 1 [.string nm, .int .i64 mk, .int .u8 po, .bool dr, .slice co cn cc, .slice ro rn rc] (by rfl) (by rfl) (World.news_of_block (cs := #[.string nm, .int .i64 mk, .int .u8 po, .bool dr, .slice co cn cc, .slice ro rn rc]) (t := 141) (fr := (0, 0)) (by have := heap_alloc_new (put6 w4 wr.heap.size (.string nm) (.int .i64 mk) (.int .u8 po) (.bool dr) (.slice co cn cc) (.slice ro rn rc)) (.cells #[.string nm, .int .i64 mk, .int .u8 po, .bool dr, .slice co cn cc, .slice ro rn rc] 141); rw [put6_size] at this; exact this)) (by simp [Value.oneCell']) (by decide) (by unfold maxLen; omega) (by omega) (by simp; omega) (w4.heap.size + 1) (by simp) ?_; intro gg cap w7 hown7 hgrow7 hat7 hlt7; have HQ : Hid (Mv w.heap.size (w.alloc (.cells #[.string s, .int .i64 0, .bool false, .bool false] 173)) w7 ∧ RR w.heap.size s p true far' w7) := hide ⟨grown_mv (A.out.2.2.1.trans (uh HPM)) hgrow7 (fun j hj => by have := ((uh HLS).1.lt j hj).1; simpa using this), grown_rr (uh HPR) hgrow7 (fun j hj => by have := ((uh HLS).1.lt j hj).1; omega)⟩; clear hown7 hgrow7 hat7 hlt7)
       go_roundg 0
       case measure => have := A.out.1; omega
       case rel => exact Or.inr ⟨rfl, p, far', uh HF, (uh HQ).1, (uh HQ).2⟩
      ·have hbd : lowEnd s m ≤ q ∧ q ≤ s.size := by
        have h1 : itemR s m = .inr (it, q) := by unfold itemR; rw [hmm, uh HW, if_neg (by rw [uh E1]; simp), if_pos (uh E2)]; rw [← tableR_next hle]; exact hsp
        have h2 := tableR_bd hkl hsp
        have h3 := nextP_ge s (lowEnd s m)
        omega
       have HF : Hid (planR s = itemsR s (s.size + 1 - nextP s q) (nextP s q) (xs.map LItem.it ++ [it])) := hide (by rw [A.out.2.1]; refine itemsR_step hlt hmm ?_; unfold itemR; rw [hmm, uh HW, if_neg (by rw [uh E1]; simp), if_pos (uh E2)]; rw [← tableR_next hle]; exact hsp)
       have HXJ := hide ((uh HXI).moved hm4 hr4)
       obtain ⟨⟨c0, c1, c2, c3, c4, c5⟩, f0, f1, f2, f3, f4, f5⟩ := cells6 (uh HXJ).r1
       have hput := (uh HXJ).put (.string it.name) (.int .i64 (rmarks it)) (.int .u8 it.policy) (.bool (rdrops it)) (.slice co cn cc) (.slice ro rn rc)
       have HLS := hide (A.out.2.2.2.2.mv hput.1 (by omega))
       have HPM := hide hput.1
       have HPR := hide hput.2.1
       have hw3 : w.heap.size + 1 ≤ w3.heap.size := by have h1 := A.out.2.2.1.size; have h2 := (uh HXI).mv.size; simp at h1; omega
       have HAS : Hid (RItemAt (w.heap.size + 1) (put6 w4 wr.heap.size (.string it.name) (.int .i64 (rmarks it)) (.int .u8 it.policy) (.bool (rdrops it)) (.slice co cn cc) (.slice ro rn rc)) ⟨it, .slice co cn cc, .slice ro rn rc, vs⟩) := hide (RItemAt.keep ⟨hia.1, hia.2.base hw3⟩ (fun g c e he _ hg => hput.2.2 g c e he hg))
       have hw4 : w.heap.size + 1 ≤ w4.heap.size := by have := hm4.size; omega
       have hNX := lt_of_block (uh HXJ).r1
       have hpq := nextP_le hbd.2
       have hgq := nextP_ge s q
       have hlm : m + 1 ≤ lowEnd s m := hlow1
       clear hsp hm4 hr4 HXI hput hia
       simp only [ricells]
       go_wp2_with (at_builtin; refine wpList_append_lies _ (by rfl) _ _ _ (by rfl) (w.heap.size + 1) 141 i0 _ 6 80 Tryz.underlying136 hi hz0 hz1 hz2 rfl (by decide) (.slice lo ln lc) xs.length (xs.flatMap ritCells) (by rfl) ((uh HLS).1.alloc _) ⟨w4.heap.size, 0, none⟩ 1 1 [.string it.name, .int .i64 (rmarks it), .int .u8 it.policy, .bool (rdrops it), .slice co cn cc, .slice ro rn rc] (by rfl) (by rfl) (World.news_of_block (cs := #[.string it.name, .int .i64 (rmarks it), .int .u8 it.policy, .bool (rdrops it), .slice co cn cc, .slice ro rn rc]) (t := 141) (fr := (0, 0)) (by have := heap_alloc_new (put6 w4 wr.heap.size (.string it.name) (.int .i64 (rmarks it)) (.int .u8 it.policy) (.bool (rdrops it)) (.slice co cn cc) (.slice ro rn rc)) (.cells #[.string it.name, .int .i64 (rmarks it), .int .u8 it.policy, .bool (rdrops it), .slice co cn cc, .slice ro rn rc] 141); rw [put6_size] at this; exact this)) (by simp [Value.oneCell']) (by decide) (by unfold maxLen; omega) (by omega) (by simp; omega) (w4.heap.size + 1) (by simp) ?_; intro gg cap w7 hown7 hgrow7 hat7 hlt7; have HQ : Hid (Mv w.heap.size (w.alloc (.cells #[.string s, .int .i64 0, .bool false, .bool false] 173)) w7 ∧ RR w.heap.size s (nextP s q) false ((xs.map LItem.it).any farItem || farItem it) w7) := hide ⟨grown_mv (A.out.2.2.1.trans (uh HPM)) hgrow7 (fun j hj => by have := ((uh HLS).1.lt j hj).1; simpa using this), grown_rr (uh HPR) hgrow7 (fun j hj => by have := ((uh HLS).1.lt j hj).1; omega)⟩; have HL7 := hide ((uh HLS).push (uh HAS) hgrow7 hown7 rfl); clear hown7 hgrow7 hat7 hlt7)
       go_roundg (s.size + 1 - nextP s q)
       case measure => have := A.out.1; omega
       case rel =>
        refine Or.inl ⟨nextP s q, xs ++ [⟨it, .slice co cn cc, .slice ro rn rc, vs⟩], rfl, hpq, by simp; omega, nextP_idem hbd.2, by simpa using uh HF, (uh HQ).1, by simpa using (uh HQ).2, uh HL7⟩
     | false =>
      have HF : Hid (planR s = .inl m) := hide (by rw [A.out.2.1]; refine itemsR_no hlt hmm ?_; unfold itemR; rw [hmm, uh HW, if_neg (by rw [e1]; simp), if_neg (by rw [e2]; simp)])
      have HLS := hide (A.out.2.2.2.2.mv ((((Mv.refl w.heap.size wr).set 2 (.bool true)).alloc (.cells IR.zero.cells 141))) (by omega))
      have HPM := hide (((Mv.refl w.heap.size wr).set 2 (.bool true)).alloc (.cells IR.zero.cells 141))
      have HPR := hide (RR.keep (w' := (wr.setCell ⟨w.heap.size, 2, none⟩ (.bool true)).alloc (.cells IR.zero.cells 141)) (A.out.2.2.2.1.setBad true) (Below.heap_alloc _ _ _ (A.out.2.2.2.1.setBad true).lt))
      obtain ⟨⟨c0, c1, c2, c3, c4, c5⟩, f0, f1, f2, f3, f4, f5⟩ := cells6 (uh HXS).r1
      have hsz : ((wr.setCell ⟨w.heap.size, 2, none⟩ (.bool true)).alloc (.cells IR.zero.cells 141)).heap.size = wr.heap.size + 1 := by simp [World.setCell]
      simp only [IR.cells, IR.zero] at HLS HPM HPR hsz HXS c0 c1 c2 c3 c4 c5 f0 f1 f2 f3 f4 f5
      have HSZ := hide hsz
      clear hsz
      have q2' := (uh HXS).rr.free 2
      have hlb : w.heap.size < wr.heap.size := by omega
      go_wp2_with (first | (go_at_call 107; refine (rword_ok _ _ m _ _ (by exact A.out.2.2.2.1) hs hm).mono ?_; rintro e w2' ⟨rfl, hw2⟩; rw [uh HW]; have hw3 := hw2.symm; clear hw2; subst hw3) | (at_builtin; refine wpList_append_lies _ (by rfl) _ _ _ (by rfl) (w.heap.size + 1) 141 i0 _ 6 80 Tryz.underlying136 hi hz0 hz1 hz2 rfl (by decide) (.slice lo ln lc) xs.length (xs.flatMap ritCells) (by rfl) ((uh HLS).1.alloc _) ⟨wr.heap.size + 1, 0, none⟩ 1 1 [.string ⟨#[]⟩, .int .i64 0, .int .u8 0, .bool false, .slice none 0 0, .slice none 0 0] (by rfl) (by rfl) (World.news_of_block (cs := #[.string ⟨#[]⟩, .int .i64 0, .int .u8 0, .bool false, .slice none 0 0, .slice none 0 0]) (t := 141) (fr := (0, 0)) (by have := heap_alloc_new ((wr.setCell ⟨w.heap.size, 2, none⟩ (.bool true)).alloc (.cells #[.string ⟨#[]⟩, .int .i64 0, .int .u8 0, .bool false, .slice none 0 0, .slice none 0 0] 141)) (.cells #[.string ⟨#[]⟩, .int .i64 0, .int .u8 0, .bool false, .slice none 0 0, .slice none 0 0] 141); rw [uh HSZ] at this; exact this)) (by simp [Value.oneCell']) (by decide) (by unfold maxLen; omega) (by omega) (by simp; omega) (wr.heap.size + 2) (by simp) ?_; intro gg cap w7 hown7 hgrow7 hat7 hlt7; have HQ : Hid (Mv w.heap.size (w.alloc (.cells #[.string s, .int .i64 0, .bool false, .bool false] 173)) w7 ∧ RR w.heap.size s m true ((xs.map LItem.it).any farItem) w7) := hide ⟨grown_mv (A.out.2.2.1.trans (uh HPM)) hgrow7 (fun j hj => by have := ((uh HLS).1.lt j hj).1; simpa using this), grown_rr (uh HPR) hgrow7 (fun j hj => by have := ((uh HLS).1.lt j hj).1; omega)⟩; clear hown7 hgrow7 hat7 hlt7))
      go_roundg 0
      case measure => have := A.out.1; omega
      case rel => exact Or.inr ⟨rfl, m, _, uh HF, (uh HQ).1, (uh HQ).2⟩
   case neg =>
    have hme : m = s.size := by omega
    have hpl : planR s = .inr (xs.map LItem.it) := by rw [A.out.2.1]; subst hme; exact itemsR_end hmm
    have HG : Hid (parseR s = if (checkR (xs.map LItem.it)).2 = 0 then .inr (xs.map LItem.it) else .inl (checkR (xs.map LItem.it))) := hide (uh HP _ hpl)
    have hwf := planR_wf hs hpl
    have HS : Hid (∀ x ∈ xs, SmallI x.it) := hide (fun x hx => small_of_wf (hwf.2 x.it (List.mem_map.2 ⟨x, hx, rfl⟩)))
    have hd : decide ((m : Int) < s.size) = false := by simp; omega
    have HV := hide (RItemsV.of_at A.out.2.2.2.2)
    have HVA := hide A.out.2.2.2.2
    have HB := hide A.out.2.2.1.below_of
    have hbe := beyond_eq (xs.map LItem.it)
    have hll : (xs.map LItem.it).length = xs.length := by simp
    rw [hll] at hbe
    have HBE := hide hbe
    obtain ⟨ao, lc', hform⟩ := (uh HV).1.form
    simp only [Value.slice.injEq] at hform
    obtain ⟨rfl, rfl, rfl⟩ := hform
    have hl1 : xs.length ≤ 1000 := by omega
    clear hpl hwf hbe A hme hll
    generalize hfa : (xs.map LItem.it).any farItem = fa at *
    have HFA := hide hfa
    clear hfa
    obtain ⟨w5, hw5⟩ : ∃ w5, w5 = wr := ⟨_, rfl⟩
    subst hw5
    cases fa with
    | true =>
     go_wp2_with fail
     have HL0 : Hid (((xs.map LItem.it).any farItem || decide (12 < xs.length)) = true) := hide (by rw [uh HFA]; first | rfl | (simp; omega))
     go_loopg [9, 10] xs.length (fun g lv i wr => ∃ (j : Nat) (L : Bool), j ≤ xs.length ∧ g = xs.length - j ∧ i = .int .i64 (j : Int) ∧ lv = .bool L ∧ L = (true || ((xs.take j).map LItem.it).any longI) ∧ Below w5.heap.size w5 wr)
     case atStart => exact ⟨0, true, by omega, rfl, rfl, rfl, by simp, Below.refl _ _⟩
     case round =>
      clear b1 b2 b3 q2
      obtain ⟨j, L, hj, hg, rfl, rfl, hL, hb⟩ := hrel
      have A : Aside (gk = xs.length - j ∧ L = (true || ((xs.take j).map LItem.it).any longI) ∧ Below w5.heap.size w5 wr) := ⟨hg, hL, hb⟩
      clear hg hL
      by_cases hlt : j < xs.length
      ·rcases (uh HV).1 with ⟨h0, _⟩ | ⟨g, cap', hv, hc, hmx, hgl, hx⟩
       ·omega
       simp only [Value.slice.injEq] at hv
       obtain ⟨rfl, _, rfl⟩ := hv
       have key : ∀ i, i < 6 → wr.cell? ⟨g, j * 6 + i, none⟩ = (ritCells xs[j])[i]? := fun i hi => by
        rw [hb.cell (p := ⟨g, j * 6 + i, none⟩) hgl, hx _ (by omega)]
        exact flat_at ritCells 6 (fun _ => rfl) xs j i hlt hi
       have k4 := key 4 (by omega)
       have k5 := key 5 (by omega)
       simp only [ritCells, ricells, List.getElem?_cons_zero, List.getElem?_cons_succ] at k4 k5
       have hxi := (uh HV).2 xs[j] (List.getElem_mem hlt)
       have hsx := uh HS xs[j] (List.getElem_mem hlt)
       have HT : Hid (((xs.take (j + 1)).map LItem.it).any longI = (((xs.take j).map LItem.it).any longI || longI xs[j].it)) := hide (by
        rw [List.take_succ_eq_append_getElem hlt, List.map_append, List.any_append]; simp)
       have hjc : (j : Int) < xs.length := by omega
       have hjcap : (j : Int) < lc := by omega
       generalize xs[j] = x at *
       obtain ⟨co, cc, hcv⟩ := hxi.2.1.form
       obtain ⟨ro, rc, hrv⟩ := hxi.2.2.1.form
       obtain ⟨it, cv, rv0, vs⟩ := x
       simp only at k4 k5 hcv hrv HT hsx
       subst hcv hrv
       obtain ⟨hl2, hl3, _⟩ := hsx
       clear key hx hb hc hgl hxi
       cases L with
       | true =>
        go_wp2_with fail
        try (go_quiet (fail))
        try go_wp2
        go_roundg (xs.length - (j + 1))
        case measure => have := A.out.1; omega
        case rel => exact ⟨j + 1, true, by omega, rfl, by go_num, rfl, by rw [uh HT, ← Bool.or_assoc, ← A.out.2.1]; rfl, by first | exact A.out.2.2 | exact below_after A.out.2.2 (below_drewN _ _)⟩
       | false =>
        by_cases h3 : (3 : Int) < it.cols.length
        ·have h3b : decide ((3 : Int) < it.cols.length) = true := by simpa using h3
         go_wp2_with fail
         try (go_quiet (fail))
         try go_wp2
         go_roundg (xs.length - (j + 1))
         case measure => have := A.out.1; omega
         case rel => exact ⟨j + 1, true, by omega, rfl, by go_num, rfl, by rw [uh HT, ← Bool.or_assoc, ← A.out.2.1]; unfold longI; simp; omega, by first | exact A.out.2.2 | exact below_after A.out.2.2 (below_drewN _ _)⟩
        ·have h3b : decide ((3 : Int) < it.cols.length) = false := by simpa using h3
         by_cases h8 : (8 : Int) < it.rules.length
         ·have h8b : decide ((8 : Int) < it.rules.length) = true := by simpa using h8
          go_wp2_with fail
          try (go_quiet (fail))
          try go_wp2
          go_roundg (xs.length - (j + 1))
          case measure => have := A.out.1; omega
          case rel => exact ⟨j + 1, true, by omega, rfl, by go_num, rfl, by rw [uh HT, ← Bool.or_assoc, ← A.out.2.1]; unfold longI; simp; omega, by first | exact A.out.2.2 | exact below_after A.out.2.2 (below_drewN _ _)⟩
         ·have h8b : decide ((8 : Int) < it.rules.length) = false := by simpa using h8
          go_wp2_with fail
          try (go_quiet (fail))
          try go_wp2
          go_roundg (xs.length - (j + 1))
          case measure => have := A.out.1; omega
          case rel => exact ⟨j + 1, false, by omega, rfl, by go_num, rfl, by rw [uh HT, ← Bool.or_assoc, ← A.out.2.1]; unfold longI; simp; omega, by first | exact A.out.2.2 | exact below_after A.out.2.2 (below_drewN _ _)⟩
      ·have hje : j = xs.length := by omega
       have hjc : ¬ (j : Int) < xs.length := by omega
       have hBY : beyondB (xs.map LItem.it) = L := by
        have h := A.out.2.1
        rw [hje, List.take_length] at h
        rw [h, ← uh HL0, ← beyond_eq]
        simp
       have HBY := hide hBY
       have HB6 := hide (below_after (uh HB) A.out.2.2)
       have HV6 := hide ((uh HV).below A.out.2.2)
       have HVA6 := hide ((uh HVA).below A.out.2.2)
       clear hBY hje hb A
       obtain ⟨w6, hw6⟩ : ∃ w6, w6 = wr := ⟨_, rfl⟩
       subst hw6
       cases L with
       | true =>
        have HF : Hid (parseR s = .inl (0, 2)) := hide (by
         rw [uh HG]
         have : checkR (xs.map LItem.it) = (0, 2) := by unfold checkR; rw [if_pos (uh HBY)]
         rw [this]; rfl)
        go_wp2_with fail
        go_ret3
        exact Or.inl ⟨0, 2, uh HF, rfl, uh HB6⟩
       | false =>
        have HC0 : Hid (checkR (xs.map LItem.it) = checkL [] (xs.map LItem.it)) := hide (by unfold checkR; rw [if_neg (by rw [uh HBY]; simp)])
        go_wp2_with fail
        go_loopg [11] xs.length (fun g i wr => ∃ j : Nat, j ≤ xs.length ∧ g = xs.length - j ∧ i = .int .i64 (j : Int) ∧ checkR (xs.map LItem.it) = checkL ((xs.take j).map LItem.it) ((xs.drop j).map LItem.it) ∧ Below w6.heap.size w6 wr)
        case atStart => exact ⟨0, by omega, rfl, rfl, by rw [uh HC0]; rfl, Below.refl _ _⟩
        case round =>
         obtain ⟨j, hj, hg, rfl, hck, hb⟩ := hrel
         have A : Aside (gk = xs.length - j ∧ checkR (xs.map LItem.it) = checkL ((xs.take j).map LItem.it) ((xs.drop j).map LItem.it) ∧ Below w6.heap.size w6 wr) := ⟨hg, hck, hb⟩
         clear hg hck HC0 HBY
         by_cases hlt : j < xs.length
         ·rcases (uh HV6).1 with ⟨h0, _⟩ | ⟨g, cap', hv, hc, hmx, hgl, hx⟩
          ·omega
          simp only [Value.slice.injEq] at hv
          obtain ⟨rfl, _, rfl⟩ := hv
          have key : ∀ i, i < 6 → wr.cell? ⟨g, j * 6 + i, none⟩ = (ritCells xs[j])[i]? := fun i hi => by
           rw [hb.cell (p := ⟨g, j * 6 + i, none⟩) hgl, hx _ (by omega)]
           exact flat_at ritCells 6 (fun _ => rfl) xs j i hlt hi
          have k0 := key 0 (by omega)
          have k1 := key 1 (by omega)
          have k2 := key 2 (by omega)
          have k3 := key 3 (by omega)
          have k4 := key 4 (by omega)
          have k5 := key 5 (by omega)
          simp only [ritCells, ricells, List.getElem?_cons_zero, List.getElem?_cons_succ, Nat.add_zero] at k0 k1 k2 k3 k4 k5
          have hpre : RItemsV wr (.slice (some ⟨g, 0, none⟩) j lc) (xs.take j) := by
           refine ⟨?_, fun x hx' => ((uh HV6).2 x (List.mem_of_mem_take hx')).below hb⟩
           have := (SlAt.take hc hmx hgl hx (i := j) hj).below hb
           rw [flat_take ritCells 6 (fun _ => rfl), List.length_take, Nat.min_eq_left hj]
           exact this
          have hxi := ((uh HV6).2 xs[j] (List.getElem_mem hlt)).below hb
          have hsx := uh HS xs[j] (List.getElem_mem hlt)
          have hdr : (xs.drop j).map LItem.it = xs[j].it :: (xs.drop (j + 1)).map LItem.it := by
           rw [List.drop_eq_getElem_cons hlt]; rfl
          have htk : (xs.take (j + 1)).map LItem.it = (xs.take j).map LItem.it ++ [xs[j].it] := by
           rw [List.take_succ_eq_append_getElem hlt, List.map_append]; rfl
          have hlen' : ((xs.take j).map LItem.it).length = j := by simp; omega
          have hlen2 : (xs.take j).length ≤ 100000 := by simp; omega
          have hjc : (j : Int) < xs.length := by omega
          have hjcap : (j : Int) ≤ lc := by omega
          have hcapm : (lc : Int) ≤ 9223372036854775807 := by unfold maxLen at hmx; omega
          generalize xs[j] = x at *
          obtain ⟨co, cc, hcv⟩ := hxi.2.1.form
          obtain ⟨ro, rc, hrv⟩ := hxi.2.2.1.form
          obtain ⟨it, cv, rv0, vs⟩ := x
          simp only at k0 k1 k2 k3 k4 k5 hcv hrv hdr htk hsx
          subst hcv hrv
          have HPRE := hide hpre
          have HXI := hide hxi
          have HSX := hide hsx
          have HD := hide hdr
          have HK := hide htk
          have HLN := hide hlen'
          clear key hx hb hc hmx hgl hpre hxi hsx hdr htk hlen'
          obtain ⟨ce, hce⟩ : ∃ ce, checkItemP it ((xs.take j).map LItem.it) = ce := ⟨_, rfl⟩
          have hcb := checkItemP_bd it ((xs.take j).map LItem.it)
          rw [hce] at hcb
          have HCE := hide hce
          clear hce
          go_wp2_with fail
          go_region_with (go_at_call 111; refine (rwrong_any ⟨it, .slice co it.cols.length cc, .slice ro it.rules.length rc, vs⟩ _ (xs.take j) _ (by exact uh HXI) (uh HSX) (by exact uh HPRE) hlen2).mono ?_; rintro e w2 ⟨rfl, hb2⟩; rw [uh HCE]; have HB2 := hide (below_of_drew hb2); clear hb2)
          all_goals
           by_cases hz : ce = 0
           ·have hzb : (ce != 0) = false := by rw [hz]; rfl
            have HZ := hide hz
            clear hz
            go_wp2
            go_roundg (xs.length - (j + 1))
            case measure => have := A.out.1; omega
            case rel =>
             refine ⟨j + 1, by omega, rfl, by go_num, ?_, below_after A.out.2.2 (uh HB2)⟩
             rw [A.out.2.1, uh HD, checkL, if_pos (by rw [uh HCE]; exact uh HZ), uh HK]
           ·have hzb : (ce != 0) = true := by rw [bne_iff_ne]; exact hz
            have HZ : Hid (parseR s = .inl (j + 1, ce)) := hide (by
             have h : checkR (xs.map LItem.it) = (j + 1, ce) := by rw [A.out.2.1, uh HD, checkL, if_neg (by rw [uh HCE]; exact hz), uh HLN, uh HCE]
             rw [uh HG, h, if_neg hz])
            clear hz
            go_wp2_with fail
            go_ret3
            refine Or.inl ⟨j + 1, ce, uh HZ, ?_, ?_⟩
            ·first | rfl | (simp; done)
            ·first | exact below_after (uh HB6) (below_after A.out.2.2 (uh HB2)) | exact below_after (uh HB6) (below_after A.out.2.2 (below_after (uh HB2) (below_drewN _ _)))
         ·have hje : j = xs.length := by omega
          have HJ : Hid (parseR s = .inr (xs.map LItem.it)) := hide (by
           have h : checkR (xs.map LItem.it) = (0, 0) := by rw [A.out.2.1, hje, List.drop_length]; rfl
           rw [uh HG, h, if_pos rfl])
          have hjc : ¬ (j : Int) < xs.length := by omega
          clear hje hb
          go_wp2_with fail
          try (go_quiet (fail))
          try (go_wp2_with fail)
          go_ret3
          refine Or.inr ⟨xs, uh HJ, _, rfl, ?_, ?_⟩
          ·first | exact below_after (uh HB6) A.out.2.2 | exact below_after (uh HB6) (below_after A.out.2.2 (below_drewN _ _))
          ·first | exact ⟨_, (uh HVA6).below A.out.2.2⟩ | exact ⟨_, (uh HVA6).below (below_after A.out.2.2 (below_drewN _ _))⟩
    | false =>
     by_cases h12 : (12 : Int) < xs.length
     ·have h12b : decide ((12 : Int) < xs.length) = true := by simpa using h12
      go_wp2_with fail
      have HL0 : Hid (((xs.map LItem.it).any farItem || decide (12 < xs.length)) = true) := hide (by rw [uh HFA]; first | rfl | (simp; omega))
      go_loopg [9, 10] xs.length (fun g lv i wr => ∃ (j : Nat) (L : Bool), j ≤ xs.length ∧ g = xs.length - j ∧ i = .int .i64 (j : Int) ∧ lv = .bool L ∧ L = (true || ((xs.take j).map LItem.it).any longI) ∧ Below w5.heap.size w5 wr)
      case atStart => exact ⟨0, true, by omega, rfl, rfl, rfl, by simp, Below.refl _ _⟩
      case round =>
       clear b1 b2 b3 q2
       obtain ⟨j, L, hj, hg, rfl, rfl, hL, hb⟩ := hrel
       have A : Aside (gk = xs.length - j ∧ L = (true || ((xs.take j).map LItem.it).any longI) ∧ Below w5.heap.size w5 wr) := ⟨hg, hL, hb⟩
       clear hg hL
       by_cases hlt : j < xs.length
       ·rcases (uh HV).1 with ⟨h0, _⟩ | ⟨g, cap', hv, hc, hmx, hgl, hx⟩
        ·omega
        simp only [Value.slice.injEq] at hv
        obtain ⟨rfl, _, rfl⟩ := hv
        have key : ∀ i, i < 6 → wr.cell? ⟨g, j * 6 + i, none⟩ = (ritCells xs[j])[i]? := fun i hi => by
         rw [hb.cell (p := ⟨g, j * 6 + i, none⟩) hgl, hx _ (by omega)]
         exact flat_at ritCells 6 (fun _ => rfl) xs j i hlt hi
        have k4 := key 4 (by omega)
        have k5 := key 5 (by omega)
        simp only [ritCells, ricells, List.getElem?_cons_zero, List.getElem?_cons_succ] at k4 k5
        have hxi := (uh HV).2 xs[j] (List.getElem_mem hlt)
        have hsx := uh HS xs[j] (List.getElem_mem hlt)
        have HT : Hid (((xs.take (j + 1)).map LItem.it).any longI = (((xs.take j).map LItem.it).any longI || longI xs[j].it)) := hide (by
         rw [List.take_succ_eq_append_getElem hlt, List.map_append, List.any_append]; simp)
        have hjc : (j : Int) < xs.length := by omega
        have hjcap : (j : Int) < lc := by omega
        generalize xs[j] = x at *
        obtain ⟨co, cc, hcv⟩ := hxi.2.1.form
        obtain ⟨ro, rc, hrv⟩ := hxi.2.2.1.form
        obtain ⟨it, cv, rv0, vs⟩ := x
        simp only at k4 k5 hcv hrv HT hsx
        subst hcv hrv
        obtain ⟨hl2, hl3, _⟩ := hsx
        clear key hx hb hc hgl hxi
        cases L with
        | true =>
         go_wp2_with fail
         try (go_quiet (fail))
         try go_wp2
         go_roundg (xs.length - (j + 1))
         case measure => have := A.out.1; omega
         case rel => exact ⟨j + 1, true, by omega, rfl, by go_num, rfl, by rw [uh HT, ← Bool.or_assoc, ← A.out.2.1]; rfl, by first | exact A.out.2.2 | exact below_after A.out.2.2 (below_drewN _ _)⟩
        | false =>
         by_cases h3 : (3 : Int) < it.cols.length
         ·have h3b : decide ((3 : Int) < it.cols.length) = true := by simpa using h3
          go_wp2_with fail
          try (go_quiet (fail))
          try go_wp2
          go_roundg (xs.length - (j + 1))
          case measure => have := A.out.1; omega
          case rel => exact ⟨j + 1, true, by omega, rfl, by go_num, rfl, by rw [uh HT, ← Bool.or_assoc, ← A.out.2.1]; unfold longI; simp; omega, by first | exact A.out.2.2 | exact below_after A.out.2.2 (below_drewN _ _)⟩
         ·have h3b : decide ((3 : Int) < it.cols.length) = false := by simpa using h3
          by_cases h8 : (8 : Int) < it.rules.length
          ·have h8b : decide ((8 : Int) < it.rules.length) = true := by simpa using h8
           go_wp2_with fail
           try (go_quiet (fail))
           try go_wp2
           go_roundg (xs.length - (j + 1))
           case measure => have := A.out.1; omega
           case rel => exact ⟨j + 1, true, by omega, rfl, by go_num, rfl, by rw [uh HT, ← Bool.or_assoc, ← A.out.2.1]; unfold longI; simp; omega, by first | exact A.out.2.2 | exact below_after A.out.2.2 (below_drewN _ _)⟩
          ·have h8b : decide ((8 : Int) < it.rules.length) = false := by simpa using h8
           go_wp2_with fail
           try (go_quiet (fail))
           try go_wp2
           go_roundg (xs.length - (j + 1))
           case measure => have := A.out.1; omega
           case rel => exact ⟨j + 1, false, by omega, rfl, by go_num, rfl, by rw [uh HT, ← Bool.or_assoc, ← A.out.2.1]; unfold longI; simp; omega, by first | exact A.out.2.2 | exact below_after A.out.2.2 (below_drewN _ _)⟩
       ·have hje : j = xs.length := by omega
        have hjc : ¬ (j : Int) < xs.length := by omega
        have hBY : beyondB (xs.map LItem.it) = L := by
         have h := A.out.2.1
         rw [hje, List.take_length] at h
         rw [h, ← uh HL0, ← beyond_eq]
         simp
        have HBY := hide hBY
        have HB6 := hide (below_after (uh HB) A.out.2.2)
        have HV6 := hide ((uh HV).below A.out.2.2)
        have HVA6 := hide ((uh HVA).below A.out.2.2)
        clear hBY hje hb A
        obtain ⟨w6, hw6⟩ : ∃ w6, w6 = wr := ⟨_, rfl⟩
        subst hw6
        cases L with
        | true =>
         have HF : Hid (parseR s = .inl (0, 2)) := hide (by
          rw [uh HG]
          have : checkR (xs.map LItem.it) = (0, 2) := by unfold checkR; rw [if_pos (uh HBY)]
          rw [this]; rfl)
         go_wp2_with fail
         go_ret3
         exact Or.inl ⟨0, 2, uh HF, rfl, uh HB6⟩
        | false =>
         have HC0 : Hid (checkR (xs.map LItem.it) = checkL [] (xs.map LItem.it)) := hide (by unfold checkR; rw [if_neg (by rw [uh HBY]; simp)])
         go_wp2_with fail
         go_loopg [11] xs.length (fun g i wr => ∃ j : Nat, j ≤ xs.length ∧ g = xs.length - j ∧ i = .int .i64 (j : Int) ∧ checkR (xs.map LItem.it) = checkL ((xs.take j).map LItem.it) ((xs.drop j).map LItem.it) ∧ Below w6.heap.size w6 wr)
         case atStart => exact ⟨0, by omega, rfl, rfl, by rw [uh HC0]; rfl, Below.refl _ _⟩
         case round =>
          obtain ⟨j, hj, hg, rfl, hck, hb⟩ := hrel
          have A : Aside (gk = xs.length - j ∧ checkR (xs.map LItem.it) = checkL ((xs.take j).map LItem.it) ((xs.drop j).map LItem.it) ∧ Below w6.heap.size w6 wr) := ⟨hg, hck, hb⟩
          clear hg hck HC0 HBY
          by_cases hlt : j < xs.length
          ·rcases (uh HV6).1 with ⟨h0, _⟩ | ⟨g, cap', hv, hc, hmx, hgl, hx⟩
           ·omega
           simp only [Value.slice.injEq] at hv
           obtain ⟨rfl, _, rfl⟩ := hv
           have key : ∀ i, i < 6 → wr.cell? ⟨g, j * 6 + i, none⟩ = (ritCells xs[j])[i]? := fun i hi => by
            rw [hb.cell (p := ⟨g, j * 6 + i, none⟩) hgl, hx _ (by omega)]
            exact flat_at ritCells 6 (fun _ => rfl) xs j i hlt hi
           have k0 := key 0 (by omega)
           have k1 := key 1 (by omega)
           have k2 := key 2 (by omega)
           have k3 := key 3 (by omega)
           have k4 := key 4 (by omega)
           have k5 := key 5 (by omega)
           simp only [ritCells, ricells, List.getElem?_cons_zero, List.getElem?_cons_succ, Nat.add_zero] at k0 k1 k2 k3 k4 k5
           have hpre : RItemsV wr (.slice (some ⟨g, 0, none⟩) j lc) (xs.take j) := by
            refine ⟨?_, fun x hx' => ((uh HV6).2 x (List.mem_of_mem_take hx')).below hb⟩
            have := (SlAt.take hc hmx hgl hx (i := j) hj).below hb
            rw [flat_take ritCells 6 (fun _ => rfl), List.length_take, Nat.min_eq_left hj]
            exact this
           have hxi := ((uh HV6).2 xs[j] (List.getElem_mem hlt)).below hb
           have hsx := uh HS xs[j] (List.getElem_mem hlt)
           have hdr : (xs.drop j).map LItem.it = xs[j].it :: (xs.drop (j + 1)).map LItem.it := by
            rw [List.drop_eq_getElem_cons hlt]; rfl
           have htk : (xs.take (j + 1)).map LItem.it = (xs.take j).map LItem.it ++ [xs[j].it] := by
            rw [List.take_succ_eq_append_getElem hlt, List.map_append]; rfl
           have hlen' : ((xs.take j).map LItem.it).length = j := by simp; omega
           have hlen2 : (xs.take j).length ≤ 100000 := by simp; omega
           have hjc : (j : Int) < xs.length := by omega
           have hjcap : (j : Int) ≤ lc := by omega
           have hcapm : (lc : Int) ≤ 9223372036854775807 := by unfold maxLen at hmx; omega
           generalize xs[j] = x at *
           obtain ⟨co, cc, hcv⟩ := hxi.2.1.form
           obtain ⟨ro, rc, hrv⟩ := hxi.2.2.1.form
           obtain ⟨it, cv, rv0, vs⟩ := x
           simp only at k0 k1 k2 k3 k4 k5 hcv hrv hdr htk hsx
           subst hcv hrv
           have HPRE := hide hpre
           have HXI := hide hxi
           have HSX := hide hsx
           have HD := hide hdr
           have HK := hide htk
           have HLN := hide hlen'
           clear key hx hb hc hmx hgl hpre hxi hsx hdr htk hlen'
           obtain ⟨ce, hce⟩ : ∃ ce, checkItemP it ((xs.take j).map LItem.it) = ce := ⟨_, rfl⟩
           have hcb := checkItemP_bd it ((xs.take j).map LItem.it)
           rw [hce] at hcb
           have HCE := hide hce
           clear hce
           go_wp2_with fail
           go_region_with (go_at_call 111; refine (rwrong_any ⟨it, .slice co it.cols.length cc, .slice ro it.rules.length rc, vs⟩ _ (xs.take j) _ (by exact uh HXI) (uh HSX) (by exact uh HPRE) hlen2).mono ?_; rintro e w2 ⟨rfl, hb2⟩; rw [uh HCE]; have HB2 := hide (below_of_drew hb2); clear hb2)
           all_goals
            by_cases hz : ce = 0
            ·have hzb : (ce != 0) = false := by rw [hz]; rfl
             have HZ := hide hz
             clear hz
             go_wp2
             go_roundg (xs.length - (j + 1))
             case measure => have := A.out.1; omega
             case rel =>
              refine ⟨j + 1, by omega, rfl, by go_num, ?_, below_after A.out.2.2 (uh HB2)⟩
              rw [A.out.2.1, uh HD, checkL, if_pos (by rw [uh HCE]; exact uh HZ), uh HK]
            ·have hzb : (ce != 0) = true := by rw [bne_iff_ne]; exact hz
             have HZ : Hid (parseR s = .inl (j + 1, ce)) := hide (by
              have h : checkR (xs.map LItem.it) = (j + 1, ce) := by rw [A.out.2.1, uh HD, checkL, if_neg (by rw [uh HCE]; exact hz), uh HLN, uh HCE]
              rw [uh HG, h, if_neg hz])
             clear hz
             go_wp2_with fail
             go_ret3
             refine Or.inl ⟨j + 1, ce, uh HZ, ?_, ?_⟩
             ·first | rfl | (simp; done)
             ·first | exact below_after (uh HB6) (below_after A.out.2.2 (uh HB2)) | exact below_after (uh HB6) (below_after A.out.2.2 (below_after (uh HB2) (below_drewN _ _)))
          ·have hje : j = xs.length := by omega
           have HJ : Hid (parseR s = .inr (xs.map LItem.it)) := hide (by
            have h : checkR (xs.map LItem.it) = (0, 0) := by rw [A.out.2.1, hje, List.drop_length]; rfl
            rw [uh HG, h, if_pos rfl])
           have hjc : ¬ (j : Int) < xs.length := by omega
           clear hje hb
           go_wp2_with fail
           try (go_quiet (fail))
           try (go_wp2_with fail)
           go_ret3
           refine Or.inr ⟨xs, uh HJ, _, rfl, ?_, ?_⟩
           ·first | exact below_after (uh HB6) A.out.2.2 | exact below_after (uh HB6) (below_after A.out.2.2 (below_drewN _ _))
           ·first | exact ⟨_, (uh HVA6).below A.out.2.2⟩ | exact ⟨_, (uh HVA6).below (below_after A.out.2.2 (below_drewN _ _))⟩
     ·have h12b : decide ((12 : Int) < xs.length) = false := by simpa using h12
      go_wp2_with fail
      have HL0 : Hid (((xs.map LItem.it).any farItem || decide (12 < xs.length)) = false) := hide (by rw [uh HFA]; first | rfl | (simp; omega))
      go_loopg [9, 10] xs.length (fun g lv i wr => ∃ (j : Nat) (L : Bool), j ≤ xs.length ∧ g = xs.length - j ∧ i = .int .i64 (j : Int) ∧ lv = .bool L ∧ L = (false || ((xs.take j).map LItem.it).any longI) ∧ Below w5.heap.size w5 wr)
      case atStart => exact ⟨0, false, by omega, rfl, rfl, rfl, by simp, Below.refl _ _⟩
      case round =>
       clear b1 b2 b3 q2
       obtain ⟨j, L, hj, hg, rfl, rfl, hL, hb⟩ := hrel
       have A : Aside (gk = xs.length - j ∧ L = (false || ((xs.take j).map LItem.it).any longI) ∧ Below w5.heap.size w5 wr) := ⟨hg, hL, hb⟩
       clear hg hL
       by_cases hlt : j < xs.length
       ·rcases (uh HV).1 with ⟨h0, _⟩ | ⟨g, cap', hv, hc, hmx, hgl, hx⟩
        ·omega
        simp only [Value.slice.injEq] at hv
        obtain ⟨rfl, _, rfl⟩ := hv
        have key : ∀ i, i < 6 → wr.cell? ⟨g, j * 6 + i, none⟩ = (ritCells xs[j])[i]? := fun i hi => by
         rw [hb.cell (p := ⟨g, j * 6 + i, none⟩) hgl, hx _ (by omega)]
         exact flat_at ritCells 6 (fun _ => rfl) xs j i hlt hi
        have k4 := key 4 (by omega)
        have k5 := key 5 (by omega)
        simp only [ritCells, ricells, List.getElem?_cons_zero, List.getElem?_cons_succ] at k4 k5
        have hxi := (uh HV).2 xs[j] (List.getElem_mem hlt)
        have hsx := uh HS xs[j] (List.getElem_mem hlt)
        have HT : Hid (((xs.take (j + 1)).map LItem.it).any longI = (((xs.take j).map LItem.it).any longI || longI xs[j].it)) := hide (by
         rw [List.take_succ_eq_append_getElem hlt, List.map_append, List.any_append]; simp)
        have hjc : (j : Int) < xs.length := by omega
        have hjcap : (j : Int) < lc := by omega
        generalize xs[j] = x at *
        obtain ⟨co, cc, hcv⟩ := hxi.2.1.form
        obtain ⟨ro, rc, hrv⟩ := hxi.2.2.1.form
        obtain ⟨it, cv, rv0, vs⟩ := x
        simp only at k4 k5 hcv hrv HT hsx
        subst hcv hrv
        obtain ⟨hl2, hl3, _⟩ := hsx
        clear key hx hb hc hgl hxi
        cases L with
        | true =>
         go_wp2_with fail
         try (go_quiet (fail))
         try go_wp2
         go_roundg (xs.length - (j + 1))
         case measure => have := A.out.1; omega
         case rel => exact ⟨j + 1, true, by omega, rfl, by go_num, rfl, by rw [uh HT, ← Bool.or_assoc, ← A.out.2.1]; rfl, by first | exact A.out.2.2 | exact below_after A.out.2.2 (below_drewN _ _)⟩
        | false =>
         by_cases h3 : (3 : Int) < it.cols.length
         ·have h3b : decide ((3 : Int) < it.cols.length) = true := by simpa using h3
          go_wp2_with fail
          try (go_quiet (fail))
          try go_wp2
          go_roundg (xs.length - (j + 1))
          case measure => have := A.out.1; omega
          case rel => exact ⟨j + 1, true, by omega, rfl, by go_num, rfl, by rw [uh HT, ← Bool.or_assoc, ← A.out.2.1]; unfold longI; simp; omega, by first | exact A.out.2.2 | exact below_after A.out.2.2 (below_drewN _ _)⟩
         ·have h3b : decide ((3 : Int) < it.cols.length) = false := by simpa using h3
          by_cases h8 : (8 : Int) < it.rules.length
          ·have h8b : decide ((8 : Int) < it.rules.length) = true := by simpa using h8
           go_wp2_with fail
           try (go_quiet (fail))
           try go_wp2
           go_roundg (xs.length - (j + 1))
           case measure => have := A.out.1; omega
           case rel => exact ⟨j + 1, true, by omega, rfl, by go_num, rfl, by rw [uh HT, ← Bool.or_assoc, ← A.out.2.1]; unfold longI; simp; omega, by first | exact A.out.2.2 | exact below_after A.out.2.2 (below_drewN _ _)⟩
          ·have h8b : decide ((8 : Int) < it.rules.length) = false := by simpa using h8
           go_wp2_with fail
           try (go_quiet (fail))
           try go_wp2
           go_roundg (xs.length - (j + 1))
           case measure => have := A.out.1; omega
           case rel => exact ⟨j + 1, false, by omega, rfl, by go_num, rfl, by rw [uh HT, ← Bool.or_assoc, ← A.out.2.1]; unfold longI; simp; omega, by first | exact A.out.2.2 | exact below_after A.out.2.2 (below_drewN _ _)⟩
       ·have hje : j = xs.length := by omega
        have hjc : ¬ (j : Int) < xs.length := by omega
        have hBY : beyondB (xs.map LItem.it) = L := by
         have h := A.out.2.1
         rw [hje, List.take_length] at h
         rw [h, ← uh HL0, ← beyond_eq]
         simp
        have HBY := hide hBY
        have HB6 := hide (below_after (uh HB) A.out.2.2)
        have HV6 := hide ((uh HV).below A.out.2.2)
        have HVA6 := hide ((uh HVA).below A.out.2.2)
        clear hBY hje hb A
        obtain ⟨w6, hw6⟩ : ∃ w6, w6 = wr := ⟨_, rfl⟩
        subst hw6
        cases L with
        | true =>
         have HF : Hid (parseR s = .inl (0, 2)) := hide (by
          rw [uh HG]
          have : checkR (xs.map LItem.it) = (0, 2) := by unfold checkR; rw [if_pos (uh HBY)]
          rw [this]; rfl)
         go_wp2_with fail
         go_ret3
         exact Or.inl ⟨0, 2, uh HF, rfl, uh HB6⟩
        | false =>
         have HC0 : Hid (checkR (xs.map LItem.it) = checkL [] (xs.map LItem.it)) := hide (by unfold checkR; rw [if_neg (by rw [uh HBY]; simp)])
         go_wp2_with fail
         go_loopg [11] xs.length (fun g i wr => ∃ j : Nat, j ≤ xs.length ∧ g = xs.length - j ∧ i = .int .i64 (j : Int) ∧ checkR (xs.map LItem.it) = checkL ((xs.take j).map LItem.it) ((xs.drop j).map LItem.it) ∧ Below w6.heap.size w6 wr)
         case atStart => exact ⟨0, by omega, rfl, rfl, by rw [uh HC0]; rfl, Below.refl _ _⟩
         case round =>
          obtain ⟨j, hj, hg, rfl, hck, hb⟩ := hrel
          have A : Aside (gk = xs.length - j ∧ checkR (xs.map LItem.it) = checkL ((xs.take j).map LItem.it) ((xs.drop j).map LItem.it) ∧ Below w6.heap.size w6 wr) := ⟨hg, hck, hb⟩
          clear hg hck HC0 HBY
          by_cases hlt : j < xs.length
          ·rcases (uh HV6).1 with ⟨h0, _⟩ | ⟨g, cap', hv, hc, hmx, hgl, hx⟩
           ·omega
           simp only [Value.slice.injEq] at hv
           obtain ⟨rfl, _, rfl⟩ := hv
           have key : ∀ i, i < 6 → wr.cell? ⟨g, j * 6 + i, none⟩ = (ritCells xs[j])[i]? := fun i hi => by
            rw [hb.cell (p := ⟨g, j * 6 + i, none⟩) hgl, hx _ (by omega)]
            exact flat_at ritCells 6 (fun _ => rfl) xs j i hlt hi
           have k0 := key 0 (by omega)
           have k1 := key 1 (by omega)
           have k2 := key 2 (by omega)
           have k3 := key 3 (by omega)
           have k4 := key 4 (by omega)
           have k5 := key 5 (by omega)
           simp only [ritCells, ricells, List.getElem?_cons_zero, List.getElem?_cons_succ, Nat.add_zero] at k0 k1 k2 k3 k4 k5
           have hpre : RItemsV wr (.slice (some ⟨g, 0, none⟩) j lc) (xs.take j) := by
            refine ⟨?_, fun x hx' => ((uh HV6).2 x (List.mem_of_mem_take hx')).below hb⟩
            have := (SlAt.take hc hmx hgl hx (i := j) hj).below hb
            rw [flat_take ritCells 6 (fun _ => rfl), List.length_take, Nat.min_eq_left hj]
            exact this
           have hxi := ((uh HV6).2 xs[j] (List.getElem_mem hlt)).below hb
           have hsx := uh HS xs[j] (List.getElem_mem hlt)
           have hdr : (xs.drop j).map LItem.it = xs[j].it :: (xs.drop (j + 1)).map LItem.it := by
            rw [List.drop_eq_getElem_cons hlt]; rfl
           have htk : (xs.take (j + 1)).map LItem.it = (xs.take j).map LItem.it ++ [xs[j].it] := by
            rw [List.take_succ_eq_append_getElem hlt, List.map_append]; rfl
           have hlen' : ((xs.take j).map LItem.it).length = j := by simp; omega
           have hlen2 : (xs.take j).length ≤ 100000 := by simp; omega
           have hjc : (j : Int) < xs.length := by omega
           have hjcap : (j : Int) ≤ lc := by omega
           have hcapm : (lc : Int) ≤ 9223372036854775807 := by unfold maxLen at hmx; omega
           generalize xs[j] = x at *
           obtain ⟨co, cc, hcv⟩ := hxi.2.1.form
           obtain ⟨ro, rc, hrv⟩ := hxi.2.2.1.form
           obtain ⟨it, cv, rv0, vs⟩ := x
           simp only at k0 k1 k2 k3 k4 k5 hcv hrv hdr htk hsx
           subst hcv hrv
           have HPRE := hide hpre
           have HXI := hide hxi
           have HSX := hide hsx
           have HD := hide hdr
           have HK := hide htk
           have HLN := hide hlen'
           clear key hx hb hc hmx hgl hpre hxi hsx hdr htk hlen'
           obtain ⟨ce, hce⟩ : ∃ ce, checkItemP it ((xs.take j).map LItem.it) = ce := ⟨_, rfl⟩
           have hcb := checkItemP_bd it ((xs.take j).map LItem.it)
           rw [hce] at hcb
           have HCE := hide hce
           clear hce
           go_wp2_with fail
           go_region_with (go_at_call 111; refine (rwrong_any ⟨it, .slice co it.cols.length cc, .slice ro it.rules.length rc, vs⟩ _ (xs.take j) _ (by exact uh HXI) (uh HSX) (by exact uh HPRE) hlen2).mono ?_; rintro e w2 ⟨rfl, hb2⟩; rw [uh HCE]; have HB2 := hide (below_of_drew hb2); clear hb2)
           all_goals
            by_cases hz : ce = 0
            ·have hzb : (ce != 0) = false := by rw [hz]; rfl
             have HZ := hide hz
             clear hz
             go_wp2
             go_roundg (xs.length - (j + 1))
             case measure => have := A.out.1; omega
             case rel =>
              refine ⟨j + 1, by omega, rfl, by go_num, ?_, below_after A.out.2.2 (uh HB2)⟩
              rw [A.out.2.1, uh HD, checkL, if_pos (by rw [uh HCE]; exact uh HZ), uh HK]
            ·have hzb : (ce != 0) = true := by rw [bne_iff_ne]; exact hz
             have HZ : Hid (parseR s = .inl (j + 1, ce)) := hide (by
              have h : checkR (xs.map LItem.it) = (j + 1, ce) := by rw [A.out.2.1, uh HD, checkL, if_neg (by rw [uh HCE]; exact hz), uh HLN, uh HCE]
              rw [uh HG, h, if_neg hz])
             clear hz
             go_wp2_with fail
             go_ret3
             refine Or.inl ⟨j + 1, ce, uh HZ, ?_, ?_⟩
             ·first | rfl | (simp; done)
             ·first | exact below_after (uh HB6) (below_after A.out.2.2 (uh HB2)) | exact below_after (uh HB6) (below_after A.out.2.2 (below_after (uh HB2) (below_drewN _ _)))
          ·have hje : j = xs.length := by omega
           have HJ : Hid (parseR s = .inr (xs.map LItem.it)) := hide (by
            have h : checkR (xs.map LItem.it) = (0, 0) := by rw [A.out.2.1, hje, List.drop_length]; rfl
            rw [uh HG, h, if_pos rfl])
           have hjc : ¬ (j : Int) < xs.length := by omega
           clear hje hb
           go_wp2_with fail
           try (go_quiet (fail))
           try (go_wp2_with fail)
           go_ret3
           refine Or.inr ⟨xs, uh HJ, _, rfl, ?_, ?_⟩
           ·first | exact below_after (uh HB6) A.out.2.2 | exact below_after (uh HB6) (below_after A.out.2.2 (below_drewN _ _))
           ·first | exact ⟨_, (uh HVA6).below A.out.2.2⟩ | exact ⟨_, (uh HVA6).below (below_after A.out.2.2 (below_drewN _ _))⟩
end Go.Proofs.YthnggjaecngbiaaGreatDoor
