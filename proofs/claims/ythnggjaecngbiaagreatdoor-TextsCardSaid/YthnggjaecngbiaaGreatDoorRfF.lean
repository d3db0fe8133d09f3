import Derived.Test.YthnggjaecngbiaaGreatDoorRfD
import Derived.Test.YthnggjaecngbiaaGreatDoorRdK
namespace Go.Proofs.YthnggjaecngbiaaGreatDoor
open Go.RowKit
theorem bangs_next {s : ByteArray} {k : Nat} (hk : k ≤ s.size) (f n : Nat) : bangs s f (nextP s k) n = bangs s f k n := by
 cases f with
 | zero => simp only [bangs]; rw [nextP_idem hk]
 | succ f => simp only [bangs]; rw [nextP_idem hk]
theorem bangs_fuel (s : ByteArray) : ∀ (f g k n : Nat), k ≤ s.size → s.size - k ≤ f → s.size - k ≤ g → bangs s f k n = bangs s g k n := by
 intro f
 induction f with
 | zero =>
  intro g k n hk hf hg
  have h : inR s (nextP s k) 33 33 = false := inR_out (by have := nextP_ge s k; omega) (by omega)
  rw [bangs_stop h, bangs_stop h]
 | succ f ih =>
  intro g k n hk hf hg
  cases h : inR s (nextP s k) 33 33 with
  | false => rw [bangs_stop h, bangs_stop h]
  | true =>
   have hlt := inR_lt (by omega) h
   have hge := nextP_ge s k
   obtain ⟨g', rfl⟩ : ∃ g', g = g' + 1 := ⟨g - 1, by omega⟩
   simp only [bangs]
   rw [if_pos h, if_pos h]
   exact ih g' _ _ (by omega) (by omega) (by omega)
def rkind (k : Int) : Int := if k = 0 then 95 else if k = 1 then 110 else if k = 2 then 99 else if k = 3 then 61 else if k = 4 then 46 else if k = 5 then 60 else 62
def rtv (t : PTest) : Value := .agg #[.int .u8 (rkind t.kind), .int .i64 (t.nots : Int), .int .i64 t.low, .int .i64 t.high]
def farT (t : PTest) : Bool := farV t.low || farV t.high
def wn (n : Nat) : Res PTest → Res PTest
 | .inl p => .inl p
 | .inr (t, q) => .inr ({ t with nots := n }, q)
theorem numberR_next {s : ByteArray} {k : Nat} (hk : k ≤ s.size) : numberR s (nextP s k) = numberR s k := by
 unfold numberR numAt
 rw [nextP_idem hk]
theorem toList_len (x : ByteArray) : x.toList.length = x.size := by rw [ByteArray.toList_eq]; exact Array.length_toList
theorem byte0_of {x : ByteArray} {a : UInt8} {l : List UInt8} (h : x.toList = a :: l) (h0 : 0 < x.size) : (x[0].toNat : Int) = (a.toNat : Int) := by
 rw [ByteArray.toList_eq] at h
 have h1 : x[0] = x.data.toList[0]'(by rw [h]; simp) := by rw [Array.getElem_toList]; rfl
 rw [h1]
 simp only [h, List.getElem_cons_zero]
structure TI (b : Nat) (s : ByteArray) (m : Nat) (bad far : Bool) (w wr : World) (N0 N1 : Nat) (kd n x y : Int) : Prop where
 mv : Mv b w wr
 rr : RR b s m bad far wr
 hb : b < w.heap.size
 n0 : w.heap.size ≤ N0
 n1 : w.heap.size ≤ N1
 ne : N0 ≠ N1
 r0 : wr.heap[N0]? = some (.cells #[.int .u8 0, .int .i64 0, .int .i64 0, .int .i64 0] 181)
 r1 : wr.heap[N1]? = some (.cells #[.int .u8 kd, .int .i64 n, .int .i64 x, .int .i64 y] 181)
section
variable {b : Nat} {s : ByteArray} {m m' : Nat} {bad bad' far far' : Bool} {w wr wr' : World} {N0 N1 : Nat} {kd n x y : Int}
theorem TI.drewN (h : TI b s m bad far w wr N0 N1 kd n x y) (j : Nat) : TI b s m bad far w (wr.drewN j) N0 N1 kd n x y := ⟨h.mv.drewN j, h.rr, h.hb, h.n0, h.n1, h.ne, h.r0, h.r1⟩
theorem TI.moved (h : TI b s m bad far w wr N0 N1 kd n x y) (g : Mv b wr wr') (r : RR b s m' bad' far' wr') : TI b s m' bad' far' w wr' N0 N1 kd n x y :=
 ⟨h.mv.trans g, r, h.hb, h.n0, h.n1, h.ne, by rw [g.block _ (lt_of_block h.r0) (by have := h.n0; have := h.hb; omega)]; exact h.r0, by rw [g.block _ (lt_of_block h.r1) (by have := h.n1; have := h.hb; omega)]; exact h.r1⟩
theorem TI.setAt (h : TI b s m bad far w wr N0 N1 kd n x y) (j : Nat) : TI b s j bad far w (wr.setCell ⟨b, 1, none⟩ (.int .i64 (j : Int))) N0 N1 kd n x y := h.moved ((Mv.refl _ _).set _ _) (h.rr.setAt j)
theorem TI.setAt1 (h : TI b s m bad far w wr N0 N1 kd n x y) : TI b s (m + 1) bad far w (wr.setCell ⟨b, 1, none⟩ (.int .i64 ((m : Int) + 1))) N0 N1 kd n x y := by
 rw [show ((m : Int) + 1) = ((m + 1 : Nat) : Int) from by omega]; exact h.setAt (m + 1)
theorem TI.setBad (h : TI b s m bad far w wr N0 N1 kd n x y) (j : Bool) : TI b s m j far w (wr.setCell ⟨b, 2, none⟩ (.bool j)) N0 N1 kd n x y := h.moved ((Mv.refl _ _).set _ _) (h.rr.setBad j)
theorem TI.setAny (h : TI b s m bad far w wr N0 N1 kd n x y) (i : Nat) (v : Value) {kd' n' x' y' : Int} (hi : #[Value.int .u8 kd, .int .i64 n, .int .i64 x, .int .i64 y].setIfInBounds i v = #[.int .u8 kd', .int .i64 n', .int .i64 x', .int .i64 y']) : TI b s m bad far w (wr.setCell ⟨N1, i, none⟩ v) N0 N1 kd' n' x' y' :=
 ⟨h.mv.setNew (a := ⟨N1, i, none⟩) h.n1 v, h.rr.keep (Below.heap_setCell _ _ _ _ (by have := h.n1; have := h.hb; simp; omega)), h.hb, h.n0, h.n1, h.ne, by rw [Below.heap_setCell _ _ _ _ h.ne]; exact h.r0, by rw [heap_set_same h.r1, hi]⟩
theorem TI.set0 (h : TI b s m bad far w wr N0 N1 kd n x y) (v : Int) : TI b s m bad far w (wr.setCell ⟨N1, 0, none⟩ (.int .u8 v)) N0 N1 v n x y := h.setAny 0 _ rfl
theorem TI.set1 (h : TI b s m bad far w wr N0 N1 kd n x y) (v : Int) : TI b s m bad far w (wr.setCell ⟨N1, 1, none⟩ (.int .i64 v)) N0 N1 kd v x y := h.setAny 1 _ rfl
theorem TI.set2 (h : TI b s m bad far w wr N0 N1 kd n x y) (v : Int) : TI b s m bad far w (wr.setCell ⟨N1, 2, none⟩ (.int .i64 v)) N0 N1 kd n v y := h.setAny 2 _ rfl
theorem TI.set3 (h : TI b s m bad far w wr N0 N1 kd n x y) (v : Int) : TI b s m bad far w (wr.setCell ⟨N1, 3, none⟩ (.int .i64 v)) N0 N1 kd n x v := h.setAny 3 _ rfl
theorem TI.cells (h : TI b s m bad far w wr N0 N1 kd n x y) :
  wr.cell? ⟨N1, 0, none⟩ = some (.int .u8 kd) ∧ wr.cell? ⟨N1, 1, none⟩ = some (.int .i64 n) ∧ wr.cell? ⟨N1, 2, none⟩ = some (.int .i64 x) ∧ wr.cell? ⟨N1, 3, none⟩ = some (.int .i64 y) ∧
  wr.frozen? ⟨N1, 0, none⟩ = false ∧ wr.frozen? ⟨N1, 1, none⟩ = false ∧ wr.frozen? ⟨N1, 2, none⟩ = false ∧ wr.frozen? ⟨N1, 3, none⟩ = false := cells4 h.r1
theorem TI.cells0 (h : TI b s m bad far w wr N0 N1 kd n x y) :
  wr.cell? ⟨N0, 0, none⟩ = some (.int .u8 0) ∧ wr.cell? ⟨N0, 1, none⟩ = some (.int .i64 0) ∧ wr.cell? ⟨N0, 2, none⟩ = some (.int .i64 0) ∧ wr.cell? ⟨N0, 3, none⟩ = some (.int .i64 0) ∧
  wr.frozen? ⟨N0, 0, none⟩ = false ∧ wr.frozen? ⟨N0, 1, none⟩ = false ∧ wr.frozen? ⟨N0, 2, none⟩ = false ∧ wr.frozen? ⟨N0, 3, none⟩ = false := cells4 h.r0
theorem TI.done (h : TI b s m bad far w wr N0 N1 kd n x y) (v0 v1 v2 v3 : Value) :
  Mv b w ((((wr.setCell ⟨N0, 0, none⟩ v0).setCell ⟨N0, 1, none⟩ v1).setCell ⟨N0, 2, none⟩ v2).setCell ⟨N0, 3, none⟩ v3) ∧ RR b s m bad far ((((wr.setCell ⟨N0, 0, none⟩ v0).setCell ⟨N0, 1, none⟩ v1).setCell ⟨N0, 2, none⟩ v2).setCell ⟨N0, 3, none⟩ v3) := by
 have h0 := h.n0
 have hb := h.hb
 have hne : ∀ i : Nat, b ≠ (⟨N0, i, none⟩ : Addr).block := fun i => by simp; omega
 refine ⟨(((h.mv.setNew (a := ⟨N0, 0, none⟩) h0 v0).setNew (a := ⟨N0, 1, none⟩) h0 v1).setNew (a := ⟨N0, 2, none⟩) h0 v2).setNew (a := ⟨N0, 3, none⟩) h0 v3, h.rr.keep ?_⟩
 rw [Below.heap_setCell _ _ _ _ (hne 3), Below.heap_setCell _ _ _ _ (hne 2), Below.heap_setCell _ _ _ _ (hne 1), Below.heap_setCell _ _ _ _ (hne 0)]
theorem TI.start (hr : RR b s m bad far w) (o1 o2 : Obj) (e1 : o1 = .cells #[.int .u8 0, .int .i64 0, .int .i64 0, .int .i64 0] 181) (e2 : o2 = o1) : TI b s m bad far w ((w.alloc o1).alloc o2) w.heap.size (w.heap.size + 1) 0 0 0 0 := by
 subst e2
 have hl := hr.lt
 refine ⟨((Mv.refl _ _).alloc _).alloc _, hr.keep ?_, hl, Nat.le_refl _, by omega, by omega, ?_, ?_⟩
 ·rw [Below.heap_alloc _ _ _ (by simp; omega), Below.heap_alloc _ _ _ hl]
 ·rw [Below.heap_alloc _ _ _ (by simp), alloc_last, e1]
 ·have := alloc_last (w.alloc o2) o2
  rw [show (w.alloc o2).heap.size = w.heap.size + 1 by simp] at this
  rw [this, e1]
end
theorem low_not {s : ByteArray} {m : Nat} (h : isLow (byteAt s m) = false) : s.extract m (lowEnd s m) = ByteArray.empty := by
 rw [show lowEnd s m = m from skipTo_stop h, extract_self]
theorem empty_facts : ByteArray.empty.toList = [] := by first | rfl | decide | simp | (unfold ByteArray.toList ByteArray.toList.loop; rfl)
theorem not_low {s : ByteArray} {m : Nat} {c : Int} (h : inR s m c c = true) (hc : ¬ (97 ≤ c ∧ c ≤ 122)) : isLow (byteAt s m) = false := by
 rw [inR_one] at h
 simp only [decide_eq_true_eq] at h
 rw [h]; unfold isLow; simpa using hc
theorem inR_two {s : ByteArray} {m : Nat} {c d : Int} (h : inR s m c c = true) (hc : c ≠ d) : inR s m d d = false := by
 rw [inR_one] at h ⊢
 simp only [decide_eq_true_eq] at h
 rw [h]; simpa using hc
set_option maxHeartbeats 6400000 in
theorem rtest_any (b : Nat) (s : ByteArray) (k : Nat) (far : Bool) (w : World) (hr : RR b s k false far w) (hs : s.size ≤ 1000) (hk : k ≤ s.size) (hb : nextP s k = k) :
  Calls Tryz.prog 168 #[.pointer (some ⟨b, 0, none⟩)] w fun e w' => (∃ p, testR s k = .inl p ∧ (∃ a n x y, e = .returned (.agg #[.int .u8 a, .int .i64 n, .int .i64 x, .int .i64 y])) ∧ Mv b w w' ∧ ∃ far', RR b s p true far' w') ∨ (∃ t q, testR s k = .inr (t, q) ∧ e = .returned (rtv t) ∧ Mv b w w' ∧ RR b s (nextP s q) false (far || farT t) w') := by
 have hbl := hr.lt
 have HS := hide (TI.start hr _ _ rfl rfl)
 clear hr
 go_enter Tryz.func168, Tryz.ntmps168
 go_wp2_with fail
 go_loopg [] (s.size - k) (fun g wr => ∃ m n : Nat, m ≤ s.size ∧ n ≤ m ∧ g = s.size - m ∧ nextP s m = m ∧ bangs s (s.size - m) m n = bangs s (s.size - k) k 0 ∧ TI b s m false far w wr w.heap.size (w.heap.size + 1) 0 n 0 0)
 case atStart => exact ⟨k, 0, hk, by omega, rfl, hb, rfl, uh HS⟩
 case round =>
  obtain ⟨m, n, hm, hnm, hg, hmm, hB, hI⟩ := hrel
  clear HS
  have HI := hide hI
  have A : Aside (gk = s.size - m ∧ bangs s (s.size - m) m n = bangs s (s.size - k) k 0) := ⟨hg, hB⟩
  clear hg hB hI
  obtain ⟨c0, c1, c2, c3, f0, f1, f2, f3⟩ := (uh HI).cells
  obtain ⟨d0, d1, d2, d3, g0, g1, g2, g3⟩ := (uh HI).cells0
  cases h33 : inR s m 33 33 with
  | true =>
   have hlt := inR_lt (by omega) h33
   have hx := hv_yes h33 (by omega)
   have HX := hide hx
   have H33 := hide h33
   clear hx h33
   go_wp2_with (first | (go_at_call 137; refine (rhere_any _ _ m false far _ (by exact (uh HI).rr)).mono ?_; rintro e w' ⟨rfl, j, rfl⟩; rw [uh HX]))
   refine (rone_yes b s m 33 far _ (((uh HI).drewN _).set1 _).rr hs (by omega) (uh H33)).mono ?_
   rintro e w3 ⟨rfl, hm3, hr3⟩
   have HJ := hide ((((uh HI).drewN _).set1 _).moved hm3 hr3)
   clear hm3 hr3
   have hle : nextP s (m + 1) ≤ s.size := nextP_le (by omega)
   have hge := nextP_ge s (m + 1)
   go_wp2
   go_roundg (s.size - nextP s (m + 1))
   case measure => have := A.out.1; omega
   case rel =>
    obtain ⟨hg, hB⟩ := A.out
    refine ⟨nextP s (m + 1), n + 1, hle, by omega, rfl, nextP_idem (by omega), ?_, by rw [show ((n + 1 : Nat) : Int) = (n : Int) + 1 by omega]; exact uh HJ⟩
    rw [← hB, bangs_fuel s (s.size - nextP s (m + 1)) (s.size - (m + 1)) _ _ hle (by omega) (by omega), bangs_next (by omega)]
    obtain ⟨f, hf⟩ : ∃ f, s.size - m = f + 1 := ⟨s.size - m - 1, by omega⟩
    rw [hf, show s.size - (m + 1) = f by omega]
    simp only [bangs]
    rw [hmm, if_pos (uh H33)]
  | false =>
   have HT : Hid (∀ r, bareTestR s m = r → testR s k = wn n r) := hide (fun r hr => by
    have h := A.out.2
    rw [bangs_stop (by rw [hmm]; exact h33), hmm] at h
    unfold testR
    rw [← h]
    simp only
    rw [hr]
    cases r <;> rfl)
   cases h95 : inR s m 95 95 with
   | true =>
    have hlt := inR_lt (by omega) h95
    have hlow := not_low h95 (by omega)
    have hw0 : s.extract m (lowEnd s m) = ByteArray.empty := low_not hlow
    obtain ⟨x, hxe⟩ : ∃ x, x = ByteArray.empty := ⟨_, rfl⟩
    have e0 : x.toList.isEmpty = true := by rw [hxe, empty_facts]; rfl
    have e1 : (x.toList == [110, 111, 110, 101]) = false := by rw [hxe, empty_facts]; rfl
    have e2 : (x.toList == [99, 108, 97, 115, 104]) = false := by rw [hxe, empty_facts]; rfl
    have HW : Hid (s.extract m (lowEnd s m) = x) := hide (by rw [hw0, hxe])
    clear hw0 hxe
    have HX := hide (hv_yes h95 (by omega))
    have HF : Hid (bareTestR s m = .inr (⟨0, 0, 0, 0⟩, m + 1)) := hide (by unfold bareTestR; rw [hmm, if_pos h95])
    have H95 := hide h95
    clear h95 hlow h33
    go_wp2_with (first | (go_at_call 137; refine (rhere_any _ _ m false far _ (by exact (uh HI).rr)).mono ?_; rintro e w' ⟨rfl, j, rfl⟩; rw [uh HX]) | (go_at_call 107; refine (rword_ok _ _ m far _ (by exact (uh HI).rr) hs hm).mono ?_; rintro e w2' ⟨rfl, hw2⟩; rw [uh HW]; subst hw2))
    refine (rone_yes b s m 95 far _ (((uh HI).drewN _).set0 _).rr hs (by omega) (uh H95)).mono ?_
    rintro e w3 ⟨rfl, hm3, hr3⟩
    have HJ := hide ((((uh HI).drewN _).set0 _).moved hm3 hr3)
    clear c0 c1 c2 c3 f0 f1 f2 f3 d0 d1 d2 d3 g0 g1 g2 g3
    clear hm3 hr3 HI
    have HI := HJ
    clear HJ
    obtain ⟨c0, c1, c2, c3, f0, f1, f2, f3⟩ := (uh HI).cells
    obtain ⟨d0, d1, d2, d3, g0, g1, g2, g3⟩ := (uh HI).cells0
    go_wp2
    exact bodyPost_ret (v := .agg #[.int .u8 (95), .int .i64 ((n : Int)), .int .i64 (0), .int .i64 (0)]) (by simp [results, Tryz.results168, go_sem, d0, d1, d2, d3]) rfl (Or.inr ⟨⟨n, 0, 0, 0⟩, m + 1, uh HT _ (uh HF), rfl, ((uh HI).done _ _ _ _).1, by rw [show (far || farT ⟨n, 0, 0, 0⟩) = far from by cases far <;> rfl]; exact ((uh HI).done _ _ _ _).2⟩)
   | false =>
    cases h60 : inR s m 60 60 with
    | true =>
     have hlt := inR_lt (by omega) h60
     have hlow := not_low h60 (by omega)
     have hw0 : s.extract m (lowEnd s m) = ByteArray.empty := low_not hlow
     obtain ⟨x, hxe⟩ : ∃ x, x = ByteArray.empty := ⟨_, rfl⟩
     have e0 : x.toList.isEmpty = true := by rw [hxe, empty_facts]; rfl
     have e1 : (x.toList == [110, 111, 110, 101]) = false := by rw [hxe, empty_facts]; rfl
     have e2 : (x.toList == [99, 108, 97, 115, 104]) = false := by rw [hxe, empty_facts]; rfl
     have HW : Hid (s.extract m (lowEnd s m) = x) := hide (by rw [hw0, hxe])
     clear hw0 hxe
     have HX := hide (hv_yes h60 (by omega))
     have hk1 : nextP s (m + 1) ≤ s.size := nextP_le (by omega)
     have hbt : bareTestR s m = withNum 5 (numberR s (nextP s (m + 1))) := by
      unfold bareTestR; rw [hmm, if_neg (by rw [h95]; simp), if_pos h60, ← numberR_next (by omega)]
     have HC := hide h60
     have HBT := hide hbt
     clear h60 h95 hlow h33 hbt
     go_wp2_with (first | (go_at_call 137; refine (rhere_any _ _ m false far _ (by exact (uh HI).rr)).mono ?_; rintro e w' ⟨rfl, j, rfl⟩; rw [uh HX]) | (go_at_call 107; refine (rword_ok _ _ m far _ (by exact (uh HI).rr) hs hm).mono ?_; rintro e w2' ⟨rfl, hw2⟩; rw [uh HW]; subst hw2))
     refine (rone_yes b s m 60 far _ (((uh HI).drewN _).set0 _).rr hs (by omega) (uh HC)).mono ?_
     rintro e w3 ⟨rfl, hm3, hr3⟩
     have HJ := hide ((((uh HI).drewN _).set0 _).moved hm3 hr3)
     clear c0 c1 c2 c3 f0 f1 f2 f3 d0 d1 d2 d3 g0 g1 g2 g3
     clear hm3 hr3 HI
     have HI := HJ
     clear HJ
     obtain ⟨c0, c1, c2, c3, f0, f1, f2, f3⟩ := (uh HI).cells
     obtain ⟨d0, d1, d2, d3, g0, g1, g2, g3⟩ := (uh HI).cells0
     cases hnum : numberR s (nextP s (m + 1)) with
     | inl p =>
      have HF : Hid (bareTestR s m = .inl p) := hide (by rw [uh HBT, hnum]; rfl)
      have HNU := hide hnum
      clear hnum
      go_wp2_with fail
      refine (rnumber_no b s _ far _ (uh HI).rr hs hk1 (nextP_idem (by omega)) (uh HNU)).mono ?_
      rintro e w3 ⟨rfl, hm3, hr3⟩
      have HJ := hide ((uh HI).moved hm3 hr3)
      clear c0 c1 c2 c3 f0 f1 f2 f3 d0 d1 d2 d3 g0 g1 g2 g3
      clear hm3 hr3 HI
      have HI := HJ
      clear HJ
      obtain ⟨c0, c1, c2, c3, f0, f1, f2, f3⟩ := (uh HI).cells
      obtain ⟨d0, d1, d2, d3, g0, g1, g2, g3⟩ := (uh HI).cells0
      go_wp2
      have HJ := hide ((uh HI).set2 0)
      clear c0 c1 c2 c3 f0 f1 f2 f3 d0 d1 d2 d3 g0 g1 g2 g3 HI
      have HI := HJ
      obtain ⟨c0, c1, c2, c3, f0, f1, f2, f3⟩ := (uh HI).cells
      obtain ⟨d0, d1, d2, d3, g0, g1, g2, g3⟩ := (uh HI).cells0
      exact bodyPost_ret (v := .agg #[.int .u8 (60), .int .i64 ((n : Int)), .int .i64 (0), .int .i64 (0)]) (by simp [results, Tryz.results168, go_sem, d0, d1, d2, d3]) rfl (Or.inl ⟨p, uh HT _ (uh HF), ⟨_, _, _, _, rfl⟩, ((uh HI).done _ _ _ _).1, _, ((uh HI).done _ _ _ _).2⟩)
     | inr vq =>
      obtain ⟨v, q⟩ := vq
      have HF : Hid (bareTestR s m = .inr (⟨0, 5, v, 0⟩, q)) := hide (by rw [uh HBT, hnum]; rfl)
      have HNU := hide hnum
      clear hnum
      go_wp2_with fail
      refine (rnumber_yes b s _ far _ (uh HI).rr hs hk1 (nextP_idem (by omega)) (uh HNU)).mono ?_
      rintro e w3 ⟨rfl, hm3, hr3⟩
      have HJ := hide ((uh HI).moved hm3 hr3)
      clear c0 c1 c2 c3 f0 f1 f2 f3 d0 d1 d2 d3 g0 g1 g2 g3
      clear hm3 hr3 HI
      have HI := HJ
      clear HJ
      obtain ⟨c0, c1, c2, c3, f0, f1, f2, f3⟩ := (uh HI).cells
      obtain ⟨d0, d1, d2, d3, g0, g1, g2, g3⟩ := (uh HI).cells0
      go_wp2
      have HJ := hide ((uh HI).set2 v)
      clear c0 c1 c2 c3 f0 f1 f2 f3 d0 d1 d2 d3 g0 g1 g2 g3 HI
      have HI := HJ
      obtain ⟨c0, c1, c2, c3, f0, f1, f2, f3⟩ := (uh HI).cells
      obtain ⟨d0, d1, d2, d3, g0, g1, g2, g3⟩ := (uh HI).cells0
      exact bodyPost_ret (v := .agg #[.int .u8 (60), .int .i64 ((n : Int)), .int .i64 (v), .int .i64 (0)]) (by simp [results, Tryz.results168, go_sem, d0, d1, d2, d3]) rfl (Or.inr ⟨⟨n, 5, v, 0⟩, q, uh HT _ (uh HF), rfl, ((uh HI).done _ _ _ _).1, by rw [show (far || farT ⟨n, 5, v, 0⟩) = (far || farV v) from by simp [farT, farV]]; exact ((uh HI).done _ _ _ _).2⟩)
    | false =>
     cases h62 : inR s m 62 62 with
     | true =>
      have hlt := inR_lt (by omega) h62
      have hlow := not_low h62 (by omega)
      have hw0 : s.extract m (lowEnd s m) = ByteArray.empty := low_not hlow
      obtain ⟨x, hxe⟩ : ∃ x, x = ByteArray.empty := ⟨_, rfl⟩
      have e0 : x.toList.isEmpty = true := by rw [hxe, empty_facts]; rfl
      have e1 : (x.toList == [110, 111, 110, 101]) = false := by rw [hxe, empty_facts]; rfl
      have e2 : (x.toList == [99, 108, 97, 115, 104]) = false := by rw [hxe, empty_facts]; rfl
      have HW : Hid (s.extract m (lowEnd s m) = x) := hide (by rw [hw0, hxe])
      clear hw0 hxe
      have HX := hide (hv_yes h62 (by omega))
      have hk1 : nextP s (m + 1) ≤ s.size := nextP_le (by omega)
      have hbt : bareTestR s m = withNum 6 (numberR s (nextP s (m + 1))) := by
       unfold bareTestR; rw [hmm, if_neg (by rw [h95]; simp), if_neg (by rw [h60]; simp), if_pos h62, ← numberR_next (by omega)]
      have HC := hide h62
      have HBT := hide hbt
      clear h62 h95 h60 hlow h33 hbt
      go_wp2_with (first | (go_at_call 137; refine (rhere_any _ _ m false far _ (by exact (uh HI).rr)).mono ?_; rintro e w' ⟨rfl, j, rfl⟩; rw [uh HX]) | (go_at_call 107; refine (rword_ok _ _ m far _ (by exact (uh HI).rr) hs hm).mono ?_; rintro e w2' ⟨rfl, hw2⟩; rw [uh HW]; subst hw2))
      refine (rone_yes b s m 62 far _ (((uh HI).drewN _).set0 _).rr hs (by omega) (uh HC)).mono ?_
      rintro e w3 ⟨rfl, hm3, hr3⟩
      have HJ := hide ((((uh HI).drewN _).set0 _).moved hm3 hr3)
      clear c0 c1 c2 c3 f0 f1 f2 f3 d0 d1 d2 d3 g0 g1 g2 g3
      clear hm3 hr3 HI
      have HI := HJ
      clear HJ
      obtain ⟨c0, c1, c2, c3, f0, f1, f2, f3⟩ := (uh HI).cells
      obtain ⟨d0, d1, d2, d3, g0, g1, g2, g3⟩ := (uh HI).cells0
      cases hnum : numberR s (nextP s (m + 1)) with
      | inl p =>
       have HF : Hid (bareTestR s m = .inl p) := hide (by rw [uh HBT, hnum]; rfl)
       have HNU := hide hnum
       clear hnum
       go_wp2_with fail
       refine (rnumber_no b s _ far _ (uh HI).rr hs hk1 (nextP_idem (by omega)) (uh HNU)).mono ?_
       rintro e w3 ⟨rfl, hm3, hr3⟩
       have HJ := hide ((uh HI).moved hm3 hr3)
       clear c0 c1 c2 c3 f0 f1 f2 f3 d0 d1 d2 d3 g0 g1 g2 g3
       clear hm3 hr3 HI
       have HI := HJ
       clear HJ
       obtain ⟨c0, c1, c2, c3, f0, f1, f2, f3⟩ := (uh HI).cells
       obtain ⟨d0, d1, d2, d3, g0, g1, g2, g3⟩ := (uh HI).cells0
       go_wp2
       have HJ := hide ((uh HI).set2 0)
       clear c0 c1 c2 c3 f0 f1 f2 f3 d0 d1 d2 d3 g0 g1 g2 g3 HI
       have HI := HJ
       obtain ⟨c0, c1, c2, c3, f0, f1, f2, f3⟩ := (uh HI).cells
       obtain ⟨d0, d1, d2, d3, g0, g1, g2, g3⟩ := (uh HI).cells0
       exact bodyPost_ret (v := .agg #[.int .u8 (62), .int .i64 ((n : Int)), .int .i64 (0), .int .i64 (0)]) (by simp [results, Tryz.results168, go_sem, d0, d1, d2, d3]) rfl (Or.inl ⟨p, uh HT _ (uh HF), ⟨_, _, _, _, rfl⟩, ((uh HI).done _ _ _ _).1, _, ((uh HI).done _ _ _ _).2⟩)
      | inr vq =>
       obtain ⟨v, q⟩ := vq
       have HF : Hid (bareTestR s m = .inr (⟨0, 6, v, 0⟩, q)) := hide (by rw [uh HBT, hnum]; rfl)
       have HNU := hide hnum
       clear hnum
       go_wp2_with fail
       refine (rnumber_yes b s _ far _ (uh HI).rr hs hk1 (nextP_idem (by omega)) (uh HNU)).mono ?_
       rintro e w3 ⟨rfl, hm3, hr3⟩
       have HJ := hide ((uh HI).moved hm3 hr3)
       clear c0 c1 c2 c3 f0 f1 f2 f3 d0 d1 d2 d3 g0 g1 g2 g3
       clear hm3 hr3 HI
       have HI := HJ
       clear HJ
       obtain ⟨c0, c1, c2, c3, f0, f1, f2, f3⟩ := (uh HI).cells
       obtain ⟨d0, d1, d2, d3, g0, g1, g2, g3⟩ := (uh HI).cells0
       go_wp2
       have HJ := hide ((uh HI).set2 v)
       clear c0 c1 c2 c3 f0 f1 f2 f3 d0 d1 d2 d3 g0 g1 g2 g3 HI
       have HI := HJ
       obtain ⟨c0, c1, c2, c3, f0, f1, f2, f3⟩ := (uh HI).cells
       obtain ⟨d0, d1, d2, d3, g0, g1, g2, g3⟩ := (uh HI).cells0
       exact bodyPost_ret (v := .agg #[.int .u8 (62), .int .i64 ((n : Int)), .int .i64 (v), .int .i64 (0)]) (by simp [results, Tryz.results168, go_sem, d0, d1, d2, d3]) rfl (Or.inr ⟨⟨n, 6, v, 0⟩, q, uh HT _ (uh HF), rfl, ((uh HI).done _ _ _ _).1, by rw [show (far || farT ⟨n, 6, v, 0⟩) = (far || farV v) from by simp [farT, farV]]; exact ((uh HI).done _ _ _ _).2⟩)
     | false =>
      cases hlow : isLow (byteAt s m) with
      | true =>
       have hlt : m < s.size := by
        rcases Nat.lt_or_ge m s.size with h | h
        ·exact h
        ·rw [byteAt_out h] at hlow; cases hlow
       have c33 := hv_ne (c := 33) (by omega) h33
       have c95 := hv_ne (c := 95) (by omega) h95
       have c60 := hv_ne (c := 60) (by omega) h60
       have c62 := hv_ne (c := 62) (by omega) h62
       generalize hx : hv s m false = c at *
       have HX := hide hx
       clear hx
       obtain ⟨x, hxe⟩ : ∃ x, x = s.extract m (lowEnd s m) := ⟨_, rfl⟩
       have HW : Hid (s.extract m (lowEnd s m) = x) := hide hxe.symm
       have hge1 : m + 1 ≤ lowEnd s m := by
        have : lowEnd s m = lowEnd s (m + 1) := skipTo_step hlt hlow
        rw [this]; exact lowEnd_ge s (m + 1)
       have hsz1 : x.size ≠ 0 := by rw [hxe, ext_size (by omega) (lowEnd_le hm)]; omega
       have e0 : x.toList.isEmpty = false := by
        cases h : x.toList.isEmpty with
        | false => rfl
        | true =>
         exfalso
         have h2 : x.toList = [] := by simpa using h
         apply hsz1
         have h3 : x.toList.length = x.size := toList_len x
         rw [← h3, h2]; rfl
       clear hxe hge1 hsz1
       cases e1 : (x.toList == [110, 111, 110, 101]) with
       | true =>
        have hxl : x.toList = [110, 111, 110, 101] := by simpa using e1
        have hxs : x.size = 4 := by
         have h3 : x.toList.length = x.size := toList_len x
         rw [← h3, hxl]; rfl
        have hx0 : 0 < x.size := by omega
        have hxv : (x[0].toNat : Int) = 110 := byte0_of hxl hx0
        have hps : m + x.size = lowEnd s m := by rw [← uh HW, ext_size (lowEnd_ge s m) (lowEnd_le hm)]; have := lowEnd_ge s m; omega
        have hle := lowEnd_le hm
        have HF : Hid (bareTestR s m = .inr (⟨0, 1, 0, 0⟩, lowEnd s m)) := hide (by unfold bareTestR; rw [hmm, if_neg (by rw [h95]; simp), if_neg (by rw [h60]; simp), if_neg (by rw [h62]; simp), if_pos (by rw [inR_low]; exact hlow)]; unfold wordTestR; rw [hmm, uh HW, if_pos e1])
        clear h95 h60 h62 h33 hlow hxl
        go_wp2_with (first | (go_at_call 137; refine (rhere_any _ _ m false far _ (by exact (uh HI).rr)).mono ?_; rintro e w' ⟨rfl, j, rfl⟩; rw [uh HX]) | (go_at_call 107; refine (rword_ok _ _ m far _ (by exact (uh HI).rr) hs hm).mono ?_; rintro e w2' ⟨rfl, hw2⟩; rw [uh HW]; subst hw2))
        refine (rpass_ok b s m x far _ (((uh HI).drewN _).set0 _).rr hs (by omega)).mono ?_
        rintro e w3 ⟨rfl, hm3, hr3⟩
        have HJ0 := (((uh HI).drewN _).set0 _).moved hm3 hr3
        rw [hps] at HJ0
        have HJ := hide HJ0
        clear HJ0 hm3 hr3
        clear c0 c1 c2 c3 f0 f1 f2 f3 d0 d1 d2 d3 g0 g1 g2 g3 HI
        have HI := HJ
        clear HJ
        obtain ⟨c0, c1, c2, c3, f0, f1, f2, f3⟩ := (uh HI).cells
        obtain ⟨d0, d1, d2, d3, g0, g1, g2, g3⟩ := (uh HI).cells0
        go_wp2
        exact bodyPost_ret (v := .agg #[.int .u8 (110), .int .i64 ((n : Int)), .int .i64 (0), .int .i64 (0)]) (by simp [results, Tryz.results168, go_sem, d0, d1, d2, d3]) rfl (Or.inr ⟨⟨n, 1, 0, 0⟩, lowEnd s m, uh HT _ (uh HF), rfl, ((uh HI).done _ _ _ _).1, by rw [show (far || farT ⟨n, 1, 0, 0⟩) = far from by cases far <;> rfl]; exact ((uh HI).done _ _ _ _).2⟩)
       | false =>
        cases e2 : (x.toList == [99, 108, 97, 115, 104]) with
        | true =>
         have hxl : x.toList = [99, 108, 97, 115, 104] := by simpa using e2
         have hxs : x.size = 5 := by
          have h3 : x.toList.length = x.size := toList_len x
          rw [← h3, hxl]; rfl
         have hx0 : 0 < x.size := by omega
         have hxv : (x[0].toNat : Int) = 99 := byte0_of hxl hx0
         have hps : m + x.size = lowEnd s m := by rw [← uh HW, ext_size (lowEnd_ge s m) (lowEnd_le hm)]; have := lowEnd_ge s m; omega
         have hle := lowEnd_le hm
         have HF : Hid (bareTestR s m = .inr (⟨0, 2, 0, 0⟩, lowEnd s m)) := hide (by unfold bareTestR; rw [hmm, if_neg (by rw [h95]; simp), if_neg (by rw [h60]; simp), if_neg (by rw [h62]; simp), if_pos (by rw [inR_low]; exact hlow)]; unfold wordTestR; rw [hmm, uh HW, if_neg (by rw [e1]; simp), if_pos e2])
         clear h95 h60 h62 h33 hlow hxl
         go_wp2_with (first | (go_at_call 137; refine (rhere_any _ _ m false far _ (by exact (uh HI).rr)).mono ?_; rintro e w' ⟨rfl, j, rfl⟩; rw [uh HX]) | (go_at_call 107; refine (rword_ok _ _ m far _ (by exact (uh HI).rr) hs hm).mono ?_; rintro e w2' ⟨rfl, hw2⟩; rw [uh HW]; subst hw2))
         refine (rpass_ok b s m x far _ (((uh HI).drewN _).set0 _).rr hs (by omega)).mono ?_
         rintro e w3 ⟨rfl, hm3, hr3⟩
         have HJ0 := (((uh HI).drewN _).set0 _).moved hm3 hr3
         rw [hps] at HJ0
         have HJ := hide HJ0
         clear HJ0 hm3 hr3
         clear c0 c1 c2 c3 f0 f1 f2 f3 d0 d1 d2 d3 g0 g1 g2 g3 HI
         have HI := HJ
         clear HJ
         obtain ⟨c0, c1, c2, c3, f0, f1, f2, f3⟩ := (uh HI).cells
         obtain ⟨d0, d1, d2, d3, g0, g1, g2, g3⟩ := (uh HI).cells0
         go_wp2
         exact bodyPost_ret (v := .agg #[.int .u8 (99), .int .i64 ((n : Int)), .int .i64 (0), .int .i64 (0)]) (by simp [results, Tryz.results168, go_sem, d0, d1, d2, d3]) rfl (Or.inr ⟨⟨n, 2, 0, 0⟩, lowEnd s m, uh HT _ (uh HF), rfl, ((uh HI).done _ _ _ _).1, by rw [show (far || farT ⟨n, 2, 0, 0⟩) = far from by cases far <;> rfl]; exact ((uh HI).done _ _ _ _).2⟩)
        | false =>
         have HF : Hid (bareTestR s m = .inl m) := hide (by unfold bareTestR; rw [hmm, if_neg (by rw [h95]; simp), if_neg (by rw [h60]; simp), if_neg (by rw [h62]; simp), if_pos (by rw [inR_low]; exact hlow)]; unfold wordTestR; rw [hmm, uh HW, if_neg (by rw [e1]; simp), if_neg (by rw [e2]; simp)])
         clear h95 h60 h62 h33 hlow
         have b2 := (uh HI).rr.badC
         have q2 := (uh HI).rr.free 2
         go_wp2_with (first | (go_at_call 137; refine (rhere_any _ _ m false far _ (by exact (uh HI).rr)).mono ?_; rintro e w' ⟨rfl, j, rfl⟩; rw [uh HX]) | (go_at_call 107; refine (rword_ok _ _ m far _ (by exact (uh HI).rr) hs hm).mono ?_; rintro e w2' ⟨rfl, hw2⟩; rw [uh HW]; subst hw2))
         exact bodyPost_ret (v := .agg #[.int .u8 (0), .int .i64 ((n : Int)), .int .i64 (0), .int .i64 (0)]) (by simp [results, Tryz.results168, go_sem, d0, d1, d2, d3]) rfl (Or.inl ⟨m, uh HT _ (uh HF), ⟨_, _, _, _, rfl⟩, ((((uh HI).drewN _).setBad true).done _ _ _ _).1, _, ((((uh HI).drewN _).setBad true).done _ _ _ _).2⟩)
      | false =>
       have c33 := hv_ne (c := 33) (by omega) h33
       have c95 := hv_ne (c := 95) (by omega) h95
       have c60 := hv_ne (c := 60) (by omega) h60
       have c62 := hv_ne (c := 62) (by omega) h62
       generalize hx : hv s m false = c at *
       have HX := hide hx
       clear hx
       have hw0 : s.extract m (lowEnd s m) = ByteArray.empty := low_not hlow
       obtain ⟨x, hxe⟩ : ∃ x, x = ByteArray.empty := ⟨_, rfl⟩
       have e0 : x.toList.isEmpty = true := by rw [hxe, empty_facts]; rfl
       have e1 : (x.toList == [110, 111, 110, 101]) = false := by rw [hxe, empty_facts]; rfl
       have e2 : (x.toList == [99, 108, 97, 115, 104]) = false := by rw [hxe, empty_facts]; rfl
       have HW : Hid (s.extract m (lowEnd s m) = x) := hide (by rw [hw0, hxe])
       clear hw0 hxe
       have HBT : Hid (bareTestR s m = numberTestR s m) := hide (by unfold bareTestR; rw [hmm, if_neg (by rw [h95]; simp), if_neg (by rw [h60]; simp), if_neg (by rw [h62]; simp), if_neg (by rw [inR_low, hlow]; simp)])
       clear h95 h60 h62 h33 hlow
       have b2 := (uh HI).rr.badC
       have q2 := (uh HI).rr.free 2
       cases hnum : numberR s m with
       | inl p =>
        have HF : Hid (bareTestR s m = .inl p) := hide (by rw [uh HBT]; unfold numberTestR; rw [hnum])
        have HNU := hide hnum
        clear hnum
        go_wp2_with (first | (go_at_call 137; refine (rhere_any _ _ m false far _ (by exact (uh HI).rr)).mono ?_; rintro e w' ⟨rfl, j, rfl⟩; rw [uh HX]) | (go_at_call 107; refine (rword_ok _ _ m far _ (by exact (uh HI).rr) hs hm).mono ?_; rintro e w2' ⟨rfl, hw2⟩; rw [uh HW]; subst hw2))
        refine (rnumber_no b s m far _ (((uh HI).drewN _).set0 _).rr hs hm hmm (uh HNU)).mono ?_
        rintro e w3 ⟨rfl, hm3, hr3⟩
        have HJ := hide ((((uh HI).drewN _).set0 _).moved hm3 hr3)
        clear c0 c1 c2 c3 f0 f1 f2 f3 d0 d1 d2 d3 g0 g1 g2 g3
        clear hm3 hr3 HI
        have HI := HJ
        clear HJ
        obtain ⟨c0, c1, c2, c3, f0, f1, f2, f3⟩ := (uh HI).cells
        obtain ⟨d0, d1, d2, d3, g0, g1, g2, g3⟩ := (uh HI).cells0
        go_wp2_with (go_at_call 137; refine (rhere_any _ _ p true far _ (by exact ((uh HI).set2 _).rr)).mono ?_; rintro e w' ⟨rfl, j, rfl⟩; rw [hv_bad])
        exact bodyPost_ret (v := .agg #[.int .u8 (61), .int .i64 ((n : Int)), .int .i64 (0), .int .i64 (0)]) (by simp [results, Tryz.results168, go_sem, d0, d1, d2, d3]) rfl (Or.inl ⟨p, uh HT _ (uh HF), ⟨_, _, _, _, rfl⟩, ((((uh HI).set2 0).drewN _).done _ _ _ _).1, _, ((((uh HI).set2 0).drewN _).done _ _ _ _).2⟩)
       | inr vq =>
        obtain ⟨v, q⟩ := vq
        have hqb := (numberR_bd hm hnum).2.2
        have hpq := nextP_le hqb
        have hpp := nextP_idem hqb
        have HNU := hide hnum
        have HBT2 : Hid (bareTestR s m = if inR s (nextP s q) 46 46 then (if inR s (nextP s q + 1) 46 46 then (match numberR s (nextP s q + 1 + 1) with | .inl p => .inl p | .inr (hi, r) => .inr (⟨0, 4, v, hi⟩, r)) else .inl (nextP s q + 1)) else .inr (⟨0, 3, v, 0⟩, nextP s q)) := hide (by rw [uh HBT]; unfold numberTestR; rw [hnum]; rfl)
        clear hnum HBT
        go_wp2_with (first | (go_at_call 137; refine (rhere_any _ _ m false far _ (by exact (uh HI).rr)).mono ?_; rintro e w' ⟨rfl, j, rfl⟩; rw [uh HX]) | (go_at_call 107; refine (rword_ok _ _ m far _ (by exact (uh HI).rr) hs hm).mono ?_; rintro e w2' ⟨rfl, hw2⟩; rw [uh HW]; subst hw2))
        refine (rnumber_yes b s m far _ (((uh HI).drewN _).set0 _).rr hs hm hmm (uh HNU)).mono ?_
        rintro e w3 ⟨rfl, hm3, hr3⟩
        have HJ := hide ((((uh HI).drewN _).set0 _).moved hm3 hr3)
        clear c0 c1 c2 c3 f0 f1 f2 f3 d0 d1 d2 d3 g0 g1 g2 g3
        clear hm3 hr3 HI
        have HI := HJ
        clear HJ
        obtain ⟨c0, c1, c2, c3, f0, f1, f2, f3⟩ := (uh HI).cells
        obtain ⟨d0, d1, d2, d3, g0, g1, g2, g3⟩ := (uh HI).cells0
        clear b2 q2 HX
        generalize hm2 : nextP s q = m2 at *
        have HM2 := hide hm2
        clear hm2
        cases h46 : inR s m2 46 46 with
        | false =>
         have c46 := hv_ne (c := 46) (by omega) h46
         generalize hx : hv s m2 false = z2 at *
         have HX := hide hx
         clear hx
         have HF : Hid (bareTestR s m = .inr (⟨0, 3, v, 0⟩, m2)) := hide (by rw [uh HBT2, h46]; rfl)
         clear h46
         go_wp2_with (go_at_call 137; refine (rhere_any _ _ m2 false _ _ (by exact ((uh HI).set2 _).rr)).mono ?_; rintro e w' ⟨rfl, j, rfl⟩; rw [uh HX])
         exact bodyPost_ret (v := .agg #[.int .u8 (61), .int .i64 ((n : Int)), .int .i64 (v), .int .i64 (0)]) (by simp [results, Tryz.results168, go_sem, d0, d1, d2, d3]) rfl (Or.inr ⟨⟨n, 3, v, 0⟩, m2, uh HT _ (uh HF), rfl, ((((uh HI).set2 v).drewN _).done _ _ _ _).1, by rw [hpp, show (far || farT ⟨n, 3, v, 0⟩) = (far || farV v) from by simp [farT, farV]]; exact ((((uh HI).set2 v).drewN _).done _ _ _ _).2⟩)
        | true =>
         have hlt2 := inR_lt (by omega) h46
         have HX := hide (hv_yes h46 (by omega))
         cases h47 : inR s (m2 + 1) 46 46 with
         | false =>
          have c47 := hv_ne (c := 46) (by omega) h47
          generalize hy : hv s (m2 + 1) false = z3 at *
          have HY := hide hy
          clear hy
          have HF : Hid (bareTestR s m = .inl (m2 + 1)) := hide (by rw [uh HBT2, h46, h47]; rfl)
          clear h46 h47
          have b1 := (uh HI).rr.at
          have q1 := (uh HI).rr.free 1
          have b2 := (uh HI).rr.badC
          have q2 := (uh HI).rr.free 2
          go_wp2_with (first | (go_at_call 137; refine (rhere_any _ _ m2 false _ _ (by exact ((uh HI).set2 _).rr)).mono ?_; rintro e w' ⟨rfl, j, rfl⟩; rw [uh HX]) | (go_at_call 137; refine (rhere_any _ _ (m2 + 1) false _ _ (by exact ((((uh HI).set2 _).drewN _).set0 _).setAt1.rr)).mono ?_; rintro e w' ⟨rfl, j, rfl⟩; rw [uh HY]))
          exact bodyPost_ret (v := .agg #[.int .u8 (46), .int .i64 ((n : Int)), .int .i64 (v), .int .i64 (0)]) (by simp [results, Tryz.results168, go_sem, d0, d1, d2, d3]) rfl (Or.inl ⟨m2 + 1, uh HT _ (uh HF), ⟨_, _, _, _, rfl⟩, ((((((((uh HI).set2 v).drewN _).set0 46).setAt1).drewN _).setBad true).done _ _ _ _).1, _, ((((((((uh HI).set2 v).drewN _).set0 46).setAt1).drewN _).setBad true).done _ _ _ _).2⟩)
         | true =>
          have hlt3 := inR_lt (by omega) h47
          have HY := hide (hv_yes h47 (by omega))
          have H47 := hide h47
          have hk3 : nextP s (m2 + 1 + 1) ≤ s.size := nextP_le (by omega)
          have hnn : numberR s (nextP s (m2 + 1 + 1)) = numberR s (m2 + 1 + 1) := numberR_next (by omega)
          have HBT3 : Hid (bareTestR s m = match numberR s (nextP s (m2 + 1 + 1)) with | .inl p => .inl p | .inr (hi, r) => .inr (⟨0, 4, v, hi⟩, r)) := hide (by rw [uh HBT2, h46, h47, hnn]; rfl)
          clear h46 h47 hnn HBT2
          have b1 := (uh HI).rr.at
          have q1 := (uh HI).rr.free 1
          have b2 := (uh HI).rr.badC
          have q2 := (uh HI).rr.free 2
          go_wp2_with (first | (go_at_call 137; refine (rhere_any _ _ m2 false _ _ (by exact ((uh HI).set2 _).rr)).mono ?_; rintro e w' ⟨rfl, j, rfl⟩; rw [uh HX]) | (go_at_call 137; refine (rhere_any _ _ (m2 + 1) false _ _ (by exact ((((uh HI).set2 _).drewN _).set0 _).setAt1.rr)).mono ?_; rintro e w' ⟨rfl, j, rfl⟩; rw [uh HY]))
          clear b1 q1 b2 q2
          refine (rone_yes b s (m2 + 1) 46 _ _ ((((((uh HI).set2 v).drewN _).set0 46).setAt1).drewN _).rr hs (by omega) (uh H47)).mono ?_
          rintro e w3 ⟨rfl, hm3, hr3⟩
          have HJ := hide (((((((uh HI).set2 v).drewN _).set0 46).setAt1).drewN _).moved hm3 hr3)
          clear c0 c1 c2 c3 f0 f1 f2 f3 d0 d1 d2 d3 g0 g1 g2 g3
          clear hm3 hr3 HI
          have HI := HJ
          clear HJ
          obtain ⟨c0, c1, c2, c3, f0, f1, f2, f3⟩ := (uh HI).cells
          obtain ⟨d0, d1, d2, d3, g0, g1, g2, g3⟩ := (uh HI).cells0
          cases hnum2 : numberR s (nextP s (m2 + 1 + 1)) with
          | inl p =>
           have HF : Hid (bareTestR s m = .inl p) := hide (by rw [uh HBT3, hnum2])
           have HNU2 := hide hnum2
           clear hnum2 HBT3
           go_wp2_with fail
           refine (rnumber_no b s _ _ _ (uh HI).rr hs hk3 (nextP_idem (by omega)) (uh HNU2)).mono ?_
           rintro e w3 ⟨rfl, hm3, hr3⟩
           have HJ := hide ((uh HI).moved hm3 hr3)
           clear c0 c1 c2 c3 f0 f1 f2 f3 d0 d1 d2 d3 g0 g1 g2 g3
           clear hm3 hr3 HI
           have HI := HJ
           clear HJ
           obtain ⟨c0, c1, c2, c3, f0, f1, f2, f3⟩ := (uh HI).cells
           obtain ⟨d0, d1, d2, d3, g0, g1, g2, g3⟩ := (uh HI).cells0
           go_wp2
           exact bodyPost_ret (v := .agg #[.int .u8 (46), .int .i64 ((n : Int)), .int .i64 (v), .int .i64 (0)]) (by simp [results, Tryz.results168, go_sem, d0, d1, d2, d3]) rfl (Or.inl ⟨p, uh HT _ (uh HF), ⟨_, _, _, _, rfl⟩, (((uh HI).set3 0).done _ _ _ _).1, _, (((uh HI).set3 0).done _ _ _ _).2⟩)
          | inr vq2 =>
           obtain ⟨v2, q2⟩ := vq2
           have HF : Hid (bareTestR s m = .inr (⟨0, 4, v, v2⟩, q2)) := hide (by rw [uh HBT3, hnum2])
           have HNU2 := hide hnum2
           clear hnum2 HBT3
           go_wp2_with fail
           refine (rnumber_yes b s _ _ _ (uh HI).rr hs hk3 (nextP_idem (by omega)) (uh HNU2)).mono ?_
           rintro e w3 ⟨rfl, hm3, hr3⟩
           have HJ := hide ((uh HI).moved hm3 hr3)
           clear c0 c1 c2 c3 f0 f1 f2 f3 d0 d1 d2 d3 g0 g1 g2 g3
           clear hm3 hr3 HI
           have HI := HJ
           clear HJ
           obtain ⟨c0, c1, c2, c3, f0, f1, f2, f3⟩ := (uh HI).cells
           obtain ⟨d0, d1, d2, d3, g0, g1, g2, g3⟩ := (uh HI).cells0
           go_wp2
           exact bodyPost_ret (v := .agg #[.int .u8 (46), .int .i64 ((n : Int)), .int .i64 (v), .int .i64 (v2)]) (by simp [results, Tryz.results168, go_sem, d0, d1, d2, d3]) rfl (Or.inr ⟨⟨n, 4, v, v2⟩, q2, uh HT _ (uh HF), rfl, (((uh HI).set3 v2).done _ _ _ _).1, by rw [show (far || farT ⟨n, 4, v, v2⟩) = (far || farV v || farV v2) from by simp [farT, Bool.or_assoc]]; exact (((uh HI).set3 v2).done _ _ _ _).2⟩)
end Go.Proofs.YthnggjaecngbiaaGreatDoor
