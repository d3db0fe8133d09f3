import Derived.Test.YthnggjaecngbiaaGreatDoorRfF
import Derived.Test.YthnggjaecngbiaaGreatDoorRdO
namespace Go.Proofs.YthnggjaecngbiaaGreatDoor
open Go.RowKit
theorem rtest_yes (b : Nat) (s : ByteArray) (k : Nat) (far : Bool) (w : World) (hr : RR b s k false far w) (hs : s.size ≤ 1000) (hk : k ≤ s.size) (hb : nextP s k = k) {t : PTest} {q : Nat} (h : testR s k = .inr (t, q)) :
  Calls Tryz.prog 168 #[.pointer (some ⟨b, 0, none⟩)] w fun e w' => e = .returned (rtv t) ∧ Mv b w w' ∧ RR b s (nextP s q) false (far || farT t) w' := by
 refine (rtest_any b s k far w hr hs hk hb).mono ?_
 rintro e w' (⟨p, h1, _⟩ | ⟨v', q', h1, h2⟩)
 ·rw [h] at h1; cases h1
 ·rw [h] at h1; cases h1; exact h2
theorem rtest_no (b : Nat) (s : ByteArray) (k : Nat) (far : Bool) (w : World) (hr : RR b s k false far w) (hs : s.size ≤ 1000) (hk : k ≤ s.size) (hb : nextP s k = k) {p : Nat} (h : testR s k = .inl p) :
  Calls Tryz.prog 168 #[.pointer (some ⟨b, 0, none⟩)] w fun e w' => ∃ a n x y far', e = .returned (.agg #[.int .u8 a, .int .i64 n, .int .i64 x, .int .i64 y]) ∧ Mv b w w' ∧ RR b s p true far' w' := by
 refine (rtest_any b s k far w hr hs hk hb).mono ?_
 rintro e w' (⟨p, h1, ⟨a, n, x, y, h2⟩, h3, far', h4⟩ | ⟨v', q', h1, h2⟩)
 ·rw [h] at h1; cases h1; exact ⟨a, n, x, y, far', h2, h3, h4⟩
 ·rw [h] at h1; cases h1
theorem owns_mv {b : Nat} {w w' : World} {base : Nat} {e : TypeId} {size : Nat} {v : Value} {n : Nat} {xs : List Value} (h : w.ownsRow base e size v n xs) (g : Mv b w w') (hb : b < base) : w'.ownsRow base e size v n xs := by
 refine h.kept ⟨g.os, g.tape, g.output, g.size, fun j hj hne => g.block j hj (fun e => hne (by rw [e]))⟩ ?_
 cases hv : v.ownBlock with
 | none => exact Or.inl rfl
 | some j => have := (h.lt j hv).1; exact Or.inr (fun e => by simp at e; omega)
structure RI (b : Nat) (s : ByteArray) (m : Nat) (bad far : Bool) (w wr : World) (N0 N1 : Nat) (v : Value) (nv : Int) (n : Nat) (xs : List Value) : Prop where
 mv : Mv b w wr
 rr : RR b s m bad far wr
 hb : b < w.heap.size
 n0 : w.heap.size ≤ N0
 n1 : w.heap.size ≤ N1
 ne : N0 ≠ N1
 r0 : wr.heap[N0]? = some (.cells #[.slice none 0 0, .int .i64 0] 179)
 r1 : wr.heap[N1]? = some (.cells #[v, .int .i64 nv] 179)
 own : wr.ownsRow w.heap.size 181 4 v n xs
section
variable {b : Nat} {s : ByteArray} {m m' : Nat} {bad bad' far far' : Bool} {w wr wr' : World} {N0 N1 : Nat} {v : Value} {nv : Int} {n : Nat} {xs : List Value}
theorem RI.drewN (h : RI b s m bad far w wr N0 N1 v nv n xs) (j : Nat) : RI b s m bad far w (wr.drewN j) N0 N1 v nv n xs := ⟨h.mv.drewN j, h.rr, h.hb, h.n0, h.n1, h.ne, h.r0, h.r1, h.own⟩
theorem RI.moved (h : RI b s m bad far w wr N0 N1 v nv n xs) (g : Mv b wr wr') (r : RR b s m' bad' far' wr') : RI b s m' bad' far' w wr' N0 N1 v nv n xs :=
 ⟨h.mv.trans g, r, h.hb, h.n0, h.n1, h.ne, by rw [g.block _ (lt_of_block h.r0) (by have := h.n0; have := h.hb; omega)]; exact h.r0, by rw [g.block _ (lt_of_block h.r1) (by have := h.n1; have := h.hb; omega)]; exact h.r1, owns_mv h.own g h.hb⟩
theorem RI.alloc (h : RI b s m bad far w wr N0 N1 v nv n xs) (o : Obj) : RI b s m bad far w (wr.alloc o) N0 N1 v nv n xs :=
 h.moved ((Mv.refl _ _).alloc o) (h.rr.keep (Below.heap_alloc _ _ _ h.rr.lt))
theorem RI.pushed {w5 : World} {v' : Value} {o : Obj} {n' : Nat} {ys : List Value} (h : RI b s m bad far w wr N0 N1 v nv n xs) (g : (wr.alloc o).grownBy w5 v.ownBlock)
  (own : w5.ownsRow w.heap.size 181 4 v' n' ys) : RI b s m bad far w (w5.setCell ⟨N1, 0, none⟩ v') N0 N1 v' nv n' ys := by
 have a0 := owns_ne h.own h.r0 (by decide)
 have a1 := owns_ne h.own h.r1 (by decide)
 have l0 := lt_of_block h.r0
 have l1 := lt_of_block h.r1
 have lb := h.rr.lt
 have hb := h.hb
 have hn1 := h.n1
 have k0 : w5.heap[N0]? = some (.cells #[.slice none 0 0, .int .i64 0] 179) := by
  rw [g.block N0 (by simp; omega) (fun e => a0 e.symm), Below.heap_alloc _ _ _ l0]; exact h.r0
 have k1 : w5.heap[N1]? = some (.cells #[v, .int .i64 nv] 179) := by
  rw [g.block N1 (by simp; omega) (fun e => a1 e.symm), Below.heap_alloc _ _ _ l1]; exact h.r1
 have kb : w5.heap[b]? = wr.heap[b]? := by
  rw [g.block b (by simp; omega) (fun e => by have := (h.own.lt b e.symm).1; omega), Below.heap_alloc _ _ _ lb]
 have m5 : Mv b w w5 := (h.mv.alloc o).grown g (fun j hj => (h.own.lt j hj).1)
 refine ⟨m5.setNew (a := ⟨N1, 0, none⟩) h.n1 v', h.rr.keep ?_, h.hb, h.n0, h.n1, h.ne, ?_, ?_, ?_⟩
 ·rw [Below.heap_setCell _ _ _ _ (by simp; omega), kb]
 ·rw [Below.heap_setCell _ _ _ _ h.ne]; exact k0
 ·rw [heap_set_same k1]; rfl
 ·exact ownsRow_setCell_other own (a := ⟨N1, 0, none⟩) (owns_ne own k1 (by decide)) v'
theorem RI.mid {w5 : World} {o : Obj} (h : RI b s m bad far w wr N0 N1 v nv n xs) (g : (wr.alloc o).grownBy w5 v.ownBlock) :
  w5.cell? ⟨N1, 0, none⟩ = some v ∧ w5.frozen? ⟨N1, 0, none⟩ = false := by
 have a1 := owns_ne h.own h.r1 (by decide)
 have l1 := lt_of_block h.r1
 have k1 : w5.heap[N1]? = some (.cells #[v, .int .i64 nv] 179) := by
  rw [g.block N1 (by simp; omega) (fun e => a1 e.symm), Below.heap_alloc _ _ _ l1]; exact h.r1
 simp [World.cell?, World.frozen?, k1]
theorem RI.cells (h : RI b s m bad far w wr N0 N1 v nv n xs) :
  wr.cell? ⟨N1, 0, none⟩ = some v ∧ wr.cell? ⟨N1, 1, none⟩ = some (.int .i64 nv) ∧ wr.frozen? ⟨N1, 0, none⟩ = false ∧ wr.frozen? ⟨N1, 1, none⟩ = false ∧
  wr.cell? ⟨N0, 0, none⟩ = some (.slice none 0 0) ∧ wr.cell? ⟨N0, 1, none⟩ = some (.int .i64 0) ∧ wr.frozen? ⟨N0, 0, none⟩ = false ∧ wr.frozen? ⟨N0, 1, none⟩ = false := by
 have h0 := h.r0
 have h1 := h.r1
 simp [World.cell?, World.frozen?, h0, h1]
theorem RI.setNum (h : RI b s m bad far w wr N0 N1 v nv n xs) (n' : Int) : RI b s m bad far w (wr.setCell ⟨N1, 1, none⟩ (.int .i64 n')) N0 N1 v n' n xs :=
 ⟨h.mv.setNew (a := ⟨N1, 1, none⟩) h.n1 _, h.rr.keep (Below.heap_setCell _ _ _ _ (by have := h.n1; have := h.hb; simp; omega)), h.hb, h.n0, h.n1, h.ne, by rw [Below.heap_setCell _ _ _ _ h.ne]; exact h.r0, by rw [heap_set_same h.r1]; rfl, ownsRow_setCell_other h.own (a := ⟨N1, 1, none⟩) (owns_ne h.own h.r1 (by decide)) _⟩
theorem RI.done (h : RI b s m bad far w wr N0 N1 v nv n xs) (v0 v1 : Value) :
  Mv b w ((wr.setCell ⟨N0, 0, none⟩ v0).setCell ⟨N0, 1, none⟩ v1) ∧ RR b s m bad far ((wr.setCell ⟨N0, 0, none⟩ v0).setCell ⟨N0, 1, none⟩ v1) ∧ ((wr.setCell ⟨N0, 0, none⟩ v0).setCell ⟨N0, 1, none⟩ v1).ownsRow w.heap.size 181 4 v n xs := by
 have h0 := h.n0
 have hb := h.hb
 have hne : ∀ i : Nat, b ≠ (⟨N0, i, none⟩ : Addr).block := fun i => by simp; omega
 refine ⟨(h.mv.setNew (a := ⟨N0, 0, none⟩) h0 v0).setNew (a := ⟨N0, 1, none⟩) h0 v1, h.rr.keep ?_, ?_⟩
 ·rw [Below.heap_setCell _ _ _ _ (hne 1), Below.heap_setCell _ _ _ _ (hne 0)]
 ·exact ownsRow_setCell_other (ownsRow_setCell_other h.own (a := ⟨N0, 0, none⟩) (owns_ne h.own h.r0 (by decide)) _) (a := ⟨N0, 1, none⟩) (owns_ne h.own h.r0 (by decide)) _
theorem RI.start (hr : RR b s m bad far w) (o1 o2 : Obj) (e1 : o1 = .cells #[.slice none 0 0, .int .i64 0] 179) (e2 : o2 = o1) : RI b s m bad far w ((w.alloc o1).alloc o2) w.heap.size (w.heap.size + 1) (.slice none 0 0) 0 0 [] := by
 subst e2
 have hl := hr.lt
 refine ⟨((Mv.refl _ _).alloc _).alloc _, hr.keep ?_, hl, Nat.le_refl _, by omega, by omega, ?_, ?_, World.ownsRow_nil _ _ _ _⟩
 ·rw [Below.heap_alloc _ _ _ (by simp; omega), Below.heap_alloc _ _ _ hl]
 ·rw [Below.heap_alloc _ _ _ (by simp), alloc_last, e1]
 ·have := alloc_last (w.alloc o2) o2
  rw [show (w.alloc o2).heap.size = w.heap.size + 1 by simp] at this
  rw [this, e1]
end
def rtcells (t : PTest) : List Value := [.int .u8 (rkind t.kind), .int .i64 (t.nots : Int), .int .i64 t.low, .int .i64 t.high]
def rtsCells (ts : List PTest) : List Value := ts.flatMap rtcells
def farRule (r : PRule) : Bool := r.tests.any farT || farV r.num
theorem bareTestR_next {s : ByteArray} {k : Nat} (hk : k ≤ s.size) : bareTestR s (nextP s k) = bareTestR s k := by
 unfold bareTestR; rw [nextP_idem hk]
theorem testR_next {s : ByteArray} {k : Nat} (hk : k ≤ s.size) : testR s (nextP s k) = testR s k := by
 unfold testR
 have h1 := nextP_le hk
 have h2 := nextP_ge s k
 rw [bangs_fuel s (s.size - nextP s k) (s.size - k) _ _ h1 (by omega) (by omega), bangs_next hk]
theorem testsR_fuel (s : ByteArray) : ∀ (f g k : Nat) (ts : List PTest), k ≤ s.size → s.size + 1 - k ≤ f → s.size + 1 - k ≤ g → testsR s f k ts = testsR s g k ts := by
 intro f
 induction f with
 | zero => intro g k ts hk hf hg; omega
 | succ f ih =>
  intro g k ts hk hf hg
  obtain ⟨g', rfl⟩ : ∃ g', g = g' + 1 := ⟨g - 1, by omega⟩
  simp only [testsR]
  split
  ·rename_i h
   have hlt := inR_lt (by omega) h
   have hge := nextP_ge s k
   cases hn : testR s (nextP s k + 1) with
   | inl p => rfl
   | inr tq =>
    obtain ⟨t, q⟩ := tq
    have hbd := testR_bd (by omega) hn
    exact ih g' q _ hbd.2 (by omega) (by omega)
  ·rfl
def headT (s : ByteArray) (k : Nat) (ts : List PTest) : Res PRule :=
 match testR s k with
 | .inl p => .inl p
 | .inr (t, q) => testsR s (s.size + 1 - q) q (ts ++ [t])
theorem headT_next {s : ByteArray} {k : Nat} (hk : k ≤ s.size) (ts : List PTest) : headT s (nextP s k) ts = headT s k ts := by
 unfold headT; rw [testR_next hk]
theorem headT_comma {s : ByteArray} {q : Nat} {ts : List PTest} (hq : q ≤ s.size) (h : inR s (nextP s q) 44 44 = true) : testsR s (s.size + 1 - q) q ts = headT s (nextP s q + 1) ts := by
 obtain ⟨f, hf⟩ : ∃ f, s.size + 1 - q = f + 1 := ⟨s.size - q, by omega⟩
 have hlt := inR_lt (by omega) h
 have hge := nextP_ge s q
 rw [hf]
 simp only [testsR]
 rw [if_pos h]
 unfold headT
 cases hn : testR s (nextP s q + 1) with
 | inl p => rfl
 | inr tq =>
  obtain ⟨t, q'⟩ := tq
  have hbd := testR_bd (by omega) hn
  exact testsR_fuel s _ _ _ _ hbd.2 (by omega) (by omega)
theorem headT_end {s : ByteArray} {q : Nat} {ts : List PTest} (hq : q ≤ s.size) (h : inR s (nextP s q) 44 44 = false) : testsR s (s.size + 1 - q) q ts = ruleEnd s q ts := by
 obtain ⟨f, hf⟩ : ∃ f, s.size + 1 - q = f + 1 := ⟨s.size - q, by omega⟩
 rw [hf]
 simp only [testsR]
 rw [if_neg (by rw [h]; simp)]
theorem ruleR_head (s : ByteArray) (k : Nat) : ruleR s k = headT s k [] := rfl
theorem Tryz.info_rtest : (Tryz.prog.info? 181).map (fun i => (i.zero, i.size, i.bytes)) = some (some (.agg #[.int .u8 0, .int .i64 0, .int .i64 0, .int .i64 0]), 4, 32) := by kernel_rfl
set_option maxRecDepth 8000 in
set_option maxHeartbeats 6400000 in
theorem rrule_any (b : Nat) (s : ByteArray) (k : Nat) (far : Bool) (w : World) (hr : RR b s k false far w) (hs : s.size ≤ 1000) (hk : k ≤ s.size) (hb : nextP s k = k) :
  Calls Tryz.prog 142 #[.pointer (some ⟨b, 0, none⟩)] w fun e w' => (∃ p, ruleR s k = .inl p ∧ (∃ o n c z, e = .returned (.agg #[.slice o n c, .int .i64 z])) ∧ Mv b w w' ∧ ∃ far', RR b s p true far' w') ∨ (∃ r q, ruleR s k = .inr (r, q) ∧ ∃ o n c, e = .returned (.agg #[.slice o n c, .int .i64 r.num]) ∧ Mv b w w' ∧ RR b s (nextP s q) false (far || farRule r) w' ∧ w'.ownsRow w.heap.size 181 4 (.slice o n c) r.tests.length (rtsCells r.tests)) := by
 have hbl := hr.lt
 obtain ⟨i0, hi, hz0, hz1, hz2⟩ := info_parts Tryz.info_rtest
 have HS := hide (RI.start hr _ _ rfl rfl)
 clear hr
 go_enter Tryz.func142, Tryz.ntmps142
 go_wp2_with fail
 go_loopg [] (s.size + 1 - k) (fun g wr => ∃ m ts v, g = s.size + 1 - m ∧ m ≤ s.size ∧ ts.length ≤ m ∧ nextP s m = m ∧ ruleR s k = headT s m ts ∧ RI b s m false (far || ts.any farT) w wr w.heap.size (w.heap.size + 1) v 0 ts.length (rtsCells ts))
 case atStart => exact ⟨k, [], _, rfl, hk, by simp, hb, ruleR_head s k, by simpa [rtsCells] using uh HS⟩
 case round =>
  obtain ⟨m, ts, v, hg, hm, hlen, hmm, hH, hI⟩ := hrel
  clear HS
  have HI := hide hI
  have A : Aside (gk = s.size + 1 - m ∧ ruleR s k = headT s m ts) := ⟨hg, hH⟩
  clear hg hH hI
  have b2 := (uh HI).rr.badC
  cases ht : testR s m with
  | inl p =>
   have HF : Hid (ruleR s k = .inl p) := hide (by rw [A.out.2]; unfold headT; rw [ht])
   have HT := hide ht
   clear ht
   go_wp2_with fail
   refine (rtest_no _ _ _ _ _ (uh HI).rr hs hm hmm (uh HT)).mono ?_
   rintro e w3 ⟨a, tn, x, y, far', rfl, hm3, hr3⟩
   have HJ := hide ((uh HI).moved hm3 hr3)
   clear hm3 hr3 HI b2
   have HI := HJ
   clear HJ
   have hN1 := lt_of_block (uh HI).r1
   obtain ⟨c10, c11, f10, f11, c00, c01, f00, f01⟩ := (uh HI).cells
   go_wp2_with (at_builtin; refine wpList_append_lies _ (by rfl) _ _ _ (by rfl) w.heap.size 181 i0 _ 4 32 Tryz.underlying177 hi hz0 hz1 hz2 rfl (by decide) v ts.length (rtsCells ts) (by rfl) (((uh HI).own.alloc _).alloc _) ⟨w3.heap.size + 1, 0, none⟩ 1 1 [.int .u8 a, .int .i64 tn, .int .i64 x, .int .i64 y] (by rfl) (by rfl) (World.news_of_block (cs := #[.int .u8 a, .int .i64 tn, .int .i64 x, .int .i64 y]) (t := 181) (fr := (0, 0)) (by have := heap_alloc_new (w3.alloc (.cells #[.int .u8 a, .int .i64 tn, .int .i64 x, .int .i64 y] 181)) (.cells #[.int .u8 a, .int .i64 tn, .int .i64 x, .int .i64 y] 181); simpa using this)) (by simp [Value.oneCell']) (by decide) (by unfold maxLen; omega) (by omega) (by have := (uh HI).mv.size; simp; omega) (w3.heap.size + 2) (by simp) ?_; intro gg cap w7 hown7 hgrow7 hat7 hlt7; have HQ := hide (((uh HI).alloc _).pushed hgrow7 hown7); obtain ⟨hd1, hd2⟩ := ((uh HI).alloc _).mid hgrow7; clear hown7 hgrow7 hat7 hlt7)
   clear c10 c11 f10 f11 c00 c01 f00 f01 HI hd1 hd2
   have HI := HQ
   clear HQ
   obtain ⟨c10, c11, f10, f11, c00, c01, f00, f01⟩ := (uh HI).cells
   go_wp2_with (go_at_call 137; refine (rhere_any _ _ p true far' _ (by exact (uh HI).rr)).mono ?_; rintro e w' ⟨rfl, j, rfl⟩; rw [hv_bad])
   refine (rone_no b s p 61 true far' _ ((uh HI).drewN _).rr (by omega) (Or.inl rfl)).mono ?_
   rintro e w4 ⟨rfl, hm3, hr3⟩
   have HJ := hide (((uh HI).drewN _).moved hm3 hr3)
   clear hm3 hr3 HI c10 c11 f10 f11 c00 c01 f00 f01
   have HI := HJ
   clear HJ
   obtain ⟨c10, c11, f10, f11, c00, c01, f00, f01⟩ := (uh HI).cells
   go_wp2_with fail
   refine (rnumber_bad b s p far' _ (uh HI).rr).mono ?_
   rintro e w4 ⟨rfl, hm3, hr3⟩
   have HJ := hide ((uh HI).moved hm3 hr3)
   clear hm3 hr3 HI c10 c11 f10 f11 c00 c01 f00 f01
   have HI := HJ
   clear HJ
   obtain ⟨c10, c11, f10, f11, c00, c01, f00, f01⟩ := (uh HI).cells
   go_wp2_with fail
   refine (rone_no b s p 59 true far' _ ((uh HI).setNum 0).rr (by omega) (Or.inl rfl)).mono ?_
   rintro e w4 ⟨rfl, hm3, hr3⟩
   have HJ := hide (((uh HI).setNum 0).moved hm3 hr3)
   clear hm3 hr3 HI c10 c11 f10 f11 c00 c01 f00 f01
   have HI := HJ
   clear HJ
   obtain ⟨c10, c11, f10, f11, c00, c01, f00, f01⟩ := (uh HI).cells
   go_wp2
   exact bodyPost_ret (v := .agg #[.slice (some ⟨gg, 0, none⟩) (ts.length + 1) cap, .int .i64 0]) (by simp [results, Tryz.results142, go_sem, c00, c01]) rfl (Or.inl ⟨p, uh HF, ⟨_, _, _, _, rfl⟩, ((uh HI).done _ _).1, _, ((uh HI).done _ _).2.1⟩)
  | inr tq =>
   obtain ⟨t, q⟩ := tq
   have hqb := testR_bd hm ht
   have hpq := nextP_le hqb.2
   have hgq := nextP_ge s q
   have hpp := nextP_idem hqb.2
   have HH : Hid (ruleR s k = testsR s (s.size + 1 - q) q (ts ++ [t])) := hide (by rw [A.out.2]; unfold headT; rw [ht])
   have HT := hide ht
   clear ht
   go_wp2_with fail
   refine (rtest_yes _ _ _ _ _ (uh HI).rr hs hm hmm (uh HT)).mono ?_
   rintro e w3 ⟨rfl, hm3, hr3⟩
   rw [show (far || ts.any farT || farT t) = (far || (ts ++ [t]).any farT) from by simp [Bool.or_assoc]] at hr3
   have HJ := hide ((uh HI).moved hm3 hr3)
   clear hm3 hr3 HI b2
   have HI := HJ
   clear HJ
   have hN1 := lt_of_block (uh HI).r1
   obtain ⟨c10, c11, f10, f11, c00, c01, f00, f01⟩ := (uh HI).cells
   simp only [rtv]
   go_wp2_with (at_builtin; refine wpList_append_lies _ (by rfl) _ _ _ (by rfl) w.heap.size 181 i0 _ 4 32 Tryz.underlying177 hi hz0 hz1 hz2 rfl (by decide) v ts.length (rtsCells ts) (by rfl) (((uh HI).own.alloc _).alloc _) ⟨w3.heap.size + 1, 0, none⟩ 1 1 [.int .u8 (rkind t.kind), .int .i64 (t.nots : Int), .int .i64 t.low, .int .i64 t.high] (by rfl) (by rfl) (World.news_of_block (cs := #[.int .u8 (rkind t.kind), .int .i64 (t.nots : Int), .int .i64 t.low, .int .i64 t.high]) (t := 181) (fr := (0, 0)) (by have := heap_alloc_new (w3.alloc (.cells #[.int .u8 (rkind t.kind), .int .i64 (t.nots : Int), .int .i64 t.low, .int .i64 t.high] 181)) (.cells #[.int .u8 (rkind t.kind), .int .i64 (t.nots : Int), .int .i64 t.low, .int .i64 t.high] 181); simpa using this)) (by simp [Value.oneCell']) (by decide) (by unfold maxLen; omega) (by omega) (by have := (uh HI).mv.size; simp; omega) (w3.heap.size + 2) (by simp) ?_; intro gg cap w7 hown7 hgrow7 hat7 hlt7; have HQ := hide (((uh HI).alloc _).pushed hgrow7 hown7); obtain ⟨hd1, hd2⟩ := ((uh HI).alloc _).mid hgrow7; clear hown7 hgrow7 hat7 hlt7)
   clear c10 c11 f10 f11 c00 c01 f00 f01 HI hd1 hd2
   have HI := HQ
   clear HQ
   obtain ⟨c10, c11, f10, f11, c00, c01, f00, f01⟩ := (uh HI).cells
   have hcells : rtsCells ts ++ [.int .u8 (rkind t.kind), .int .i64 (t.nots : Int), .int .i64 t.low, .int .i64 t.high] = rtsCells (ts ++ [t]) := by simp [rtsCells, rtcells]
   have hlen1 : ts.length + 1 = (ts ++ [t]).length := by simp
   rw [hcells, hlen1] at HI
   rw [hlen1]
   generalize ts ++ [t] = ts1 at *
   clear hcells HT
   generalize hm1 : nextP s q = m1 at *
   have HM1 := hide hm1
   clear hm1
   obtain ⟨far1, hfar1⟩ : ∃ far1, far1 = (far || ts1.any farT) := ⟨_, rfl⟩
   rw [← hfar1] at HI
   cases h44 : inR s m1 44 44 with
   | true =>
    have hlt1 := inR_lt (by omega) h44
    have HX := hide (hv_yes h44 (by omega))
    have H44 := hide h44
    clear h44
    have hB : ruleR s k = headT s (nextP s (m1 + 1)) ts1 := by rw [uh HH, headT_comma hqb.2 (by rw [uh HM1]; exact uh H44), uh HM1, headT_next (by omega)]
    have HB := hide hB
    clear hB
    go_wp2_with (go_at_call 137; refine (rhere_any _ _ m1 false _ _ (by exact (uh HI).rr)).mono ?_; rintro e w2 ⟨rfl, j, rfl⟩; rw [uh HX])
    refine (rone_yes b s m1 44 far1 _ ((uh HI).drewN _).rr hs (by omega) (uh H44)).mono ?_
    rintro e w4 ⟨rfl, hm3, hr3⟩
    have HJ := hide (((uh HI).drewN _).moved hm3 hr3)
    clear hm3 hr3 HI c10 c11 f10 f11 c00 c01 f00 f01
    have HI := HJ
    clear HJ
    obtain ⟨c10, c11, f10, f11, c00, c01, f00, f01⟩ := (uh HI).cells
    have hle : nextP s (m1 + 1) ≤ s.size := nextP_le (by omega)
    have hge := nextP_ge s (m1 + 1)
    go_wp2
    go_roundg (s.size + 1 - nextP s (m1 + 1))
    case measure => have := A.out.1; omega
    case rel => exact ⟨nextP s (m1 + 1), ts1, _, rfl, hle, by omega, nextP_idem (by omega), uh HB, by rw [← hfar1]; exact uh HI⟩
   | false =>
    have c44 := hv_ne (c := 44) (by omega) h44
    have HE : Hid (ruleR s k = ruleEnd s q ts1) := hide (by rw [uh HH, headT_end hqb.2 (by rw [uh HM1]; exact h44)])
    clear h44
    generalize hx : hv s m1 false = z at *
    have HX := hide hx
    clear hx
    go_wp2_with (go_at_call 137; refine (rhere_any _ _ m1 false _ _ (by exact (uh HI).rr)).mono ?_; rintro e w2 ⟨rfl, j, rfl⟩; rw [uh HX])
    cases h61 : inR s m1 61 61 with
    | false =>
     have HF : Hid (ruleR s k = .inl m1) := hide (by rw [uh HE]; unfold ruleEnd; rw [uh HM1, if_neg (by rw [h61]; simp)])
     have H61 := hide h61
     clear h61
     refine (rone_no b s m1 61 false far1 _ ((uh HI).drewN _).rr (by omega) (Or.inr (uh H61))).mono ?_
     rintro e w4 ⟨rfl, hm3, hr3⟩
     have HJ := hide (((uh HI).drewN _).moved hm3 hr3)
     clear hm3 hr3 HI c10 c11 f10 f11 c00 c01 f00 f01
     have HI := HJ
     clear HJ
     obtain ⟨c10, c11, f10, f11, c00, c01, f00, f01⟩ := (uh HI).cells
     go_wp2_with fail
     refine (rnumber_bad b s m1 far1 _ (uh HI).rr).mono ?_
     rintro e w4 ⟨rfl, hm3, hr3⟩
     have HJ := hide ((uh HI).moved hm3 hr3)
     clear hm3 hr3 HI c10 c11 f10 f11 c00 c01 f00 f01
     have HI := HJ
     clear HJ
     obtain ⟨c10, c11, f10, f11, c00, c01, f00, f01⟩ := (uh HI).cells
     go_wp2_with fail
     refine (rone_no b s m1 59 true far1 _ ((uh HI).setNum 0).rr (by omega) (Or.inl rfl)).mono ?_
     rintro e w4 ⟨rfl, hm3, hr3⟩
     have HJ := hide (((uh HI).setNum 0).moved hm3 hr3)
     clear hm3 hr3 HI c10 c11 f10 f11 c00 c01 f00 f01
     have HI := HJ
     clear HJ
     obtain ⟨c10, c11, f10, f11, c00, c01, f00, f01⟩ := (uh HI).cells
     go_wp2
     exact bodyPost_ret (v := .agg #[.slice (some ⟨gg, 0, none⟩) ts1.length cap, .int .i64 0]) (by simp [results, Tryz.results142, go_sem, c00, c01]) rfl (Or.inl ⟨m1, uh HF, ⟨_, _, _, _, rfl⟩, ((uh HI).done _ _).1, _, ((uh HI).done _ _).2.1⟩)
    | true =>
     have hlt1 := inR_lt (by omega) h61
     have H61 := hide h61
     clear h61
     refine (rone_yes b s m1 61 far1 _ ((uh HI).drewN _).rr hs (by omega) (uh H61)).mono ?_
     rintro e w4 ⟨rfl, hm3, hr3⟩
     have HJ := hide (((uh HI).drewN _).moved hm3 hr3)
     clear hm3 hr3 HI c10 c11 f10 f11 c00 c01 f00 f01
     have HI := HJ
     clear HJ
     obtain ⟨c10, c11, f10, f11, c00, c01, f00, f01⟩ := (uh HI).cells
     go_wp2_with fail
     have hk3 : nextP s (m1 + 1) ≤ s.size := nextP_le (by omega)
     have hnn : numberR s (nextP s (m1 + 1)) = numberR s (m1 + 1) := numberR_next (by omega)
     cases hnum : numberR s (nextP s (m1 + 1)) with
     | inl p =>
      have HF : Hid (ruleR s k = .inl p) := hide (by rw [uh HE]; unfold ruleEnd; rw [uh HM1, if_pos (uh H61), ← hnn, hnum])
      refine (rnumber_no b s _ far1 _ (uh HI).rr hs hk3 (nextP_idem (by omega)) hnum).mono ?_
      rintro e w4 ⟨rfl, hm3, hr3⟩
      have HJ := hide ((uh HI).moved hm3 hr3)
      clear hm3 hr3 HI c10 c11 f10 f11 c00 c01 f00 f01
      have HI := HJ
      clear HJ
      obtain ⟨c10, c11, f10, f11, c00, c01, f00, f01⟩ := (uh HI).cells
      clear hnum hnn
      go_wp2_with fail
      refine (rone_no b s p 59 true far1 _ ((uh HI).setNum 0).rr (by omega) (Or.inl rfl)).mono ?_
      rintro e w4 ⟨rfl, hm3, hr3⟩
      have HJ := hide (((uh HI).setNum 0).moved hm3 hr3)
      clear hm3 hr3 HI c10 c11 f10 f11 c00 c01 f00 f01
      have HI := HJ
      clear HJ
      obtain ⟨c10, c11, f10, f11, c00, c01, f00, f01⟩ := (uh HI).cells
      go_wp2
      exact bodyPost_ret (v := .agg #[.slice (some ⟨gg, 0, none⟩) ts1.length cap, .int .i64 0]) (by simp [results, Tryz.results142, go_sem, c00, c01]) rfl (Or.inl ⟨p, uh HF, ⟨_, _, _, _, rfl⟩, ((uh HI).done _ _).1, _, ((uh HI).done _ _).2.1⟩)
     | inr vq =>
      obtain ⟨nv, q6⟩ := vq
      have hnb := numberR_bd hk3 hnum
      refine (rnumber_yes b s _ far1 _ (uh HI).rr hs hk3 (nextP_idem (by omega)) hnum).mono ?_
      rintro e w4 ⟨rfl, hm3, hr3⟩
      have HJ := hide ((uh HI).moved hm3 hr3)
      clear hm3 hr3 HI c10 c11 f10 f11 c00 c01 f00 f01
      have HI := HJ
      clear HJ
      obtain ⟨c10, c11, f10, f11, c00, c01, f00, f01⟩ := (uh HI).cells
      have HNU : Hid (ruleR s k = if inR s (nextP s q6) 59 59 then .inr (⟨ts1, nv⟩, nextP s q6 + 1) else .inl (nextP s q6)) := hide (by rw [uh HE]; unfold ruleEnd; rw [uh HM1, if_pos (uh H61), ← hnn, hnum])
      clear hnum hnn
      go_wp2_with fail
      cases h59 : inR s (nextP s q6) 59 59 with
      | false =>
       have HF : Hid (ruleR s k = .inl (nextP s q6)) := hide (by rw [uh HNU, h59]; rfl)
       have H59 := hide h59
       clear h59
       refine (rone_no b s (nextP s q6) 59 false (far1 || farV nv) _ ((uh HI).setNum nv).rr (by omega) (Or.inr (uh H59))).mono ?_
       rintro e w4 ⟨rfl, hm3, hr3⟩
       have HJ := hide (((uh HI).setNum nv).moved hm3 hr3)
       clear hm3 hr3 HI c10 c11 f10 f11 c00 c01 f00 f01
       have HI := HJ
       clear HJ
       obtain ⟨c10, c11, f10, f11, c00, c01, f00, f01⟩ := (uh HI).cells
       go_wp2
       exact bodyPost_ret (v := .agg #[.slice (some ⟨gg, 0, none⟩) ts1.length cap, .int .i64 nv]) (by simp [results, Tryz.results142, go_sem, c00, c01]) rfl (Or.inl ⟨(nextP s q6), uh HF, ⟨_, _, _, _, rfl⟩, ((uh HI).done _ _).1, _, ((uh HI).done _ _).2.1⟩)
      | true =>
       have HF : Hid (ruleR s k = .inr (⟨ts1, nv⟩, nextP s q6 + 1)) := hide (by rw [uh HNU, h59]; rfl)
       have hlt5 := inR_lt (by omega) h59
       refine (rone_yes b s (nextP s q6) 59 (far1 || farV nv) _ ((uh HI).setNum nv).rr hs (by omega) h59).mono ?_
       rintro e w4 ⟨rfl, hm3, hr3⟩
       have HJ := hide (((uh HI).setNum nv).moved hm3 hr3)
       clear hm3 hr3 HI c10 c11 f10 f11 c00 c01 f00 f01
       have HI := HJ
       clear HJ
       obtain ⟨c10, c11, f10, f11, c00, c01, f00, f01⟩ := (uh HI).cells
       clear h59
       go_wp2
       exact bodyPost_ret (v := .agg #[.slice (some ⟨gg, 0, none⟩) ts1.length cap, .int .i64 nv]) (by simp [results, Tryz.results142, go_sem, c00, c01]) rfl (Or.inr ⟨⟨ts1, nv⟩, nextP s q6 + 1, uh HF, _, _, _, rfl, ((uh HI).done _ _).1, by rw [show (far || farRule ⟨ts1, nv⟩) = (far1 || farV nv) from by rw [hfar1]; simp [farRule, Bool.or_assoc]]; exact ((uh HI).done _ _).2.1, ((uh HI).done _ _).2.2⟩)
end Go.Proofs.YthnggjaecngbiaaGreatDoor
namespace Go.Proofs.YthnggjaecngbiaaGreatDoor
open Go.RowKit
structure IR where
 nm : ByteArray
 ma : Int
 po : Int
 dr : Bool
 cv : Value
 rv : Value
def IR.cells (i : IR) : Array Value := #[.string i.nm, .int .i64 i.ma, .int .u8 i.po, .bool i.dr, i.cv, i.rv]
def IR.zero : IR := ⟨⟨#[]⟩, 0, 0, false, .slice none 0 0, .slice none 0 0⟩
structure R3 (base : Nat) (w : World) (cv rv : Value) (nc : Nat) (cs : List Value) (nr : Nat) (rc : List Value) (tl : List (Value × Nat × List Value)) : Prop where
 co : w.ownsRow base 9 1 cv nc cs
 ru : w.ownsRow base 179 2 rv nr rc
 te : ∀ x ∈ tl, w.ownsRow base 181 4 x.1 x.2.1 x.2.2
theorem R3.keep {base : Nat} {w w' : World} {cv rv : Value} {nc : Nat} {cs : List Value} {nr : Nat} {rc : List Value} {tl : List (Value × Nat × List Value)} (h : R3 base w cv rv nc cs nr rc tl)
  (k : ∀ (g : Nat) (c : Array Value) (e : TypeId), e = 9 ∨ e = 179 ∨ e = 181 → base ≤ g → w.heap[g]? = some (.cells c e) → w'.heap[g]? = w.heap[g]?) : R3 base w' cv rv nc cs nr rc tl :=
 ⟨owns_keep h.co (fun g c hb hg => k g c _ (by simp) hb hg), owns_keep h.ru (fun g c hb hg => k g c _ (by simp) hb hg), fun x hx => owns_keep (h.te x hx) (fun g c hb hg => k g c _ (by simp) hb hg)⟩
theorem R3.base {base base' : Nat} {w : World} {cv rv : Value} {nc : Nat} {cs : List Value} {nr : Nat} {rc : List Value} {tl : List (Value × Nat × List Value)} (h : R3 base w cv rv nc cs nr rc tl) (hb : base' ≤ base) : R3 base' w cv rv nc cs nr rc tl :=
 ⟨owns_base h.co hb, owns_base h.ru hb, fun x hx => owns_base (h.te x hx) hb⟩
structure II (b : Nat) (s : ByteArray) (m : Nat) (bad far : Bool) (w wr : World) (N0 N1 : Nat) (i : IR) (nc : Nat) (cs : List Value) (nr : Nat) (rc : List Value) (tl : List (Value × Nat × List Value)) : Prop where
 mv : Mv b w wr
 rr : RR b s m bad far wr
 hb : b < w.heap.size
 n0 : w.heap.size ≤ N0
 n1 : w.heap.size ≤ N1
 ne : N0 ≠ N1
 r0 : wr.heap[N0]? = some (.cells IR.zero.cells 141)
 r1 : wr.heap[N1]? = some (.cells i.cells 141)
 rows : R3 w.heap.size wr i.cv i.rv nc cs nr rc tl
section
variable {b : Nat} {s : ByteArray} {m m' : Nat} {bad bad' far far' : Bool} {w wr wr' : World} {N0 N1 : Nat} {i : IR} {nc : Nat} {cs : List Value} {nr : Nat} {rc : List Value} {tl : List (Value × Nat × List Value)}
theorem II.drewN (h : II b s m bad far w wr N0 N1 i nc cs nr rc tl) (j : Nat) : II b s m bad far w (wr.drewN j) N0 N1 i nc cs nr rc tl := ⟨h.mv.drewN j, h.rr, h.hb, h.n0, h.n1, h.ne, h.r0, h.r1, h.rows.keep (fun _ _ _ _ _ _ => rfl)⟩
theorem II.moved (h : II b s m bad far w wr N0 N1 i nc cs nr rc tl) (g : Mv b wr wr') (r : RR b s m' bad' far' wr') : II b s m' bad' far' w wr' N0 N1 i nc cs nr rc tl :=
 ⟨h.mv.trans g, r, h.hb, h.n0, h.n1, h.ne, by rw [g.block _ (lt_of_block h.r0) (by have := h.n0; have := h.hb; omega)]; exact h.r0, by rw [g.block _ (lt_of_block h.r1) (by have := h.n1; have := h.hb; omega)]; exact h.r1,
  h.rows.keep (fun g' _ _ _ hg hh => g.block g' (lt_of_block hh) (by have := h.hb; omega))⟩
theorem II.alloc (h : II b s m bad far w wr N0 N1 i nc cs nr rc tl) (o : Obj) : II b s m bad far w (wr.alloc o) N0 N1 i nc cs nr rc tl :=
 h.moved ((Mv.refl _ _).alloc o) (h.rr.keep (Below.heap_alloc _ _ _ h.rr.lt))
theorem II.setAt1 (h : II b s m bad far w wr N0 N1 i nc cs nr rc tl) : II b s (m + 1) bad far w (wr.setCell ⟨b, 1, none⟩ (.int .i64 ((m : Int) + 1))) N0 N1 i nc cs nr rc tl := by
 rw [show ((m : Int) + 1) = ((m + 1 : Nat) : Int) from by omega]; exact h.moved ((Mv.refl _ _).set _ _) (h.rr.setAt (m + 1))
theorem II.setBad (h : II b s m bad far w wr N0 N1 i nc cs nr rc tl) (j : Bool) : II b s m j far w (wr.setCell ⟨b, 2, none⟩ (.bool j)) N0 N1 i nc cs nr rc tl := h.moved ((Mv.refl _ _).set _ _) (h.rr.setBad j)
theorem II.setAny (h : II b s m bad far w wr N0 N1 i nc cs nr rc tl) (x : Nat) (v : Value) {i' : IR} (hi : i.cells.setIfInBounds x v = i'.cells) (hc : i'.cv = i.cv) (hv : i'.rv = i.rv) : II b s m bad far w (wr.setCell ⟨N1, x, none⟩ v) N0 N1 i' nc cs nr rc tl :=
 ⟨h.mv.setNew (a := ⟨N1, x, none⟩) h.n1 v, h.rr.keep (Below.heap_setCell _ _ _ _ (by have := h.n1; have := h.hb; simp; omega)), h.hb, h.n0, h.n1, h.ne, by rw [Below.heap_setCell _ _ _ _ h.ne]; exact h.r0, by rw [heap_set_same h.r1, hi],
  by rw [hc, hv]; exact h.rows.keep (fun g c e he _ hg => set_keep h.r1 (by rcases he with rfl | rfl | rfl <;> decide) g c hg)⟩
theorem II.set0 (h : II b s m bad far w wr N0 N1 i nc cs nr rc tl) (x : ByteArray) : II b s m bad far w (wr.setCell ⟨N1, 0, none⟩ (.string x)) N0 N1 { i with nm := x } nc cs nr rc tl := h.setAny 0 _ rfl rfl rfl
theorem II.set1 (h : II b s m bad far w wr N0 N1 i nc cs nr rc tl) (x : Int) : II b s m bad far w (wr.setCell ⟨N1, 1, none⟩ (.int .i64 x)) N0 N1 { i with ma := x } nc cs nr rc tl := h.setAny 1 _ rfl rfl rfl
theorem II.set2 (h : II b s m bad far w wr N0 N1 i nc cs nr rc tl) (x : Int) : II b s m bad far w (wr.setCell ⟨N1, 2, none⟩ (.int .u8 x)) N0 N1 { i with po := x } nc cs nr rc tl := h.setAny 2 _ rfl rfl rfl
theorem II.set3 (h : II b s m bad far w wr N0 N1 i nc cs nr rc tl) (x : Bool) : II b s m bad far w (wr.setCell ⟨N1, 3, none⟩ (.bool x)) N0 N1 { i with dr := x } nc cs nr rc tl := h.setAny 3 _ rfl rfl rfl
theorem II.grown {w5 : World} {o : Obj} {row : Option Nat} {e : TypeId} (h : II b s m bad far w wr N0 N1 i nc cs nr rc tl) (g : (wr.alloc o).grownBy w5 row) (hrow : ∀ j, row = some j → w.heap.size ≤ j ∧ ∃ c, wr.heap[j]? = some (.cells c e)) :
  Mv b w w5 ∧ RR b s m bad far w5 ∧ ∀ (gg : Nat) (c : Array Value) (e' : TypeId), e' ≠ e → wr.heap[gg]? = some (.cells c e') → w5.heap[gg]? = wr.heap[gg]? := by
 have lb := h.rr.lt
 have hb := h.hb
 refine ⟨(h.mv.alloc o).grown g (fun j hj => (hrow j hj).1), h.rr.keep ?_, fun gg c e' hne hc => ?_⟩
 ·rw [g.block b (by simp; omega) (fun e => by have := (hrow b e.symm).1; omega), Below.heap_alloc _ _ _ lb]
 ·rw [g.block gg (by have := lt_of_block hc; simp; omega) (fun eq => ?_), Below.heap_alloc _ _ _ (lt_of_block hc)]
  obtain ⟨_, c', hc'⟩ := hrow gg eq.symm
  rw [hc] at hc'
  simp at hc'
  exact hne hc'.2
theorem owns_row {w : World} {base : Nat} {e : TypeId} {size : Nat} {v : Value} {n : Nat} {xs : List Value} (h : w.ownsRow base e size v n xs) (j : Nat) (hj : v.ownBlock = some j) : base ≤ j ∧ ∃ c, w.heap[j]? = some (.cells c e) := by
 refine ⟨(h.lt j hj).1, ?_⟩
 obtain ⟨h1, h2⟩ := h
 rcases h2 with ⟨h2, _⟩ | ⟨g, cap, cur, hv, hg, hh, r⟩
 ·subst h2; simp [Value.ownBlock] at hj
 ·subst hv; simp [Value.ownBlock] at hj; subst hj; exact ⟨_, hh⟩
theorem II.pushC {w5 : World} {v' : Value} {o : Obj} {n' : Nat} {ys : List Value} (h : II b s m bad far w wr N0 N1 i nc cs nr rc tl) (g : (wr.alloc o).grownBy w5 i.cv.ownBlock)
  (own : w5.ownsRow w.heap.size 9 1 v' n' ys) : II b s m bad far w (w5.setCell ⟨N1, 4, none⟩ v') N0 N1 { i with cv := v' } n' ys nr rc tl ∧ w5.cell? ⟨N1, 4, none⟩ = some i.cv ∧ w5.frozen? ⟨N1, 4, none⟩ = false := by
 obtain ⟨m5, r5, keep⟩ := h.grown g (e := 9) (fun j hj => owns_row h.rows.co j hj)
 have k0 := keep _ _ _ (by decide) h.r0
 have k1 := keep _ _ _ (by decide) h.r1
 rw [h.r0] at k0
 rw [h.r1] at k1
 refine ⟨⟨m5.setNew (a := ⟨N1, 4, none⟩) h.n1 v', r5.keep (Below.heap_setCell _ _ _ _ (by have := h.n1; have := h.hb; simp; omega)), h.hb, h.n0, h.n1, h.ne, ?_, ?_, ?_, ?_, ?_⟩, ?_⟩
 ·rw [Below.heap_setCell _ _ _ _ h.ne]; exact k0
 ·rw [heap_set_same k1]; rfl
 ·exact owns_keep own (fun gg c _ hg => set_keep k1 (by decide) gg c hg)
 ·exact owns_keep (owns_keep h.rows.ru (fun gg c _ hg => keep gg c _ (by decide) hg)) (fun gg c _ hg => set_keep k1 (by decide) gg c hg)
 ·exact fun x hx => owns_keep (owns_keep (h.rows.te x hx) (fun gg c _ hg => keep gg c _ (by decide) hg)) (fun gg c _ hg => set_keep k1 (by decide) gg c hg)
 ·simp [World.cell?, World.frozen?, k1, IR.cells]
theorem II.pushR {w5 : World} {v' : Value} {o : Obj} {n' : Nat} {ys : List Value} (h : II b s m bad far w wr N0 N1 i nc cs nr rc tl) (g : (wr.alloc o).grownBy w5 i.rv.ownBlock)
  (own : w5.ownsRow w.heap.size 179 2 v' n' ys) {tl' : List (Value × Nat × List Value)} (ht : ∀ x ∈ tl', wr.ownsRow w.heap.size 181 4 x.1 x.2.1 x.2.2) : II b s m bad far w (w5.setCell ⟨N1, 5, none⟩ v') N0 N1 { i with rv := v' } nc cs n' ys tl' ∧ w5.cell? ⟨N1, 5, none⟩ = some i.rv ∧ w5.frozen? ⟨N1, 5, none⟩ = false := by
 obtain ⟨m5, r5, keep⟩ := h.grown g (e := 179) (fun j hj => owns_row h.rows.ru j hj)
 have k0 := keep _ _ _ (by decide) h.r0
 have k1 := keep _ _ _ (by decide) h.r1
 rw [h.r0] at k0
 rw [h.r1] at k1
 refine ⟨⟨m5.setNew (a := ⟨N1, 5, none⟩) h.n1 v', r5.keep (Below.heap_setCell _ _ _ _ (by have := h.n1; have := h.hb; simp; omega)), h.hb, h.n0, h.n1, h.ne, ?_, ?_, ?_, ?_, ?_⟩, ?_⟩
 ·rw [Below.heap_setCell _ _ _ _ h.ne]; exact k0
 ·rw [heap_set_same k1]; rfl
 ·exact owns_keep (owns_keep h.rows.co (fun gg c _ hg => keep gg c _ (by decide) hg)) (fun gg c _ hg => set_keep k1 (by decide) gg c hg)
 ·exact owns_keep own (fun gg c _ hg => set_keep k1 (by decide) gg c hg)
 ·exact fun x hx => owns_keep (owns_keep (ht x hx) (fun gg c _ hg => keep gg c _ (by decide) hg)) (fun gg c _ hg => set_keep k1 (by decide) gg c hg)
 ·simp [World.cell?, World.frozen?, k1, IR.cells]
theorem II.cells (h : II b s m bad far w wr N0 N1 i nc cs nr rc tl) :
  (wr.cell? ⟨N1, 0, none⟩ = some (.string i.nm) ∧ wr.cell? ⟨N1, 1, none⟩ = some (.int .i64 i.ma) ∧ wr.cell? ⟨N1, 2, none⟩ = some (.int .u8 i.po) ∧ wr.cell? ⟨N1, 3, none⟩ = some (.bool i.dr) ∧ wr.cell? ⟨N1, 4, none⟩ = some i.cv ∧ wr.cell? ⟨N1, 5, none⟩ = some i.rv) ∧
  (wr.frozen? ⟨N1, 0, none⟩ = false ∧ wr.frozen? ⟨N1, 1, none⟩ = false ∧ wr.frozen? ⟨N1, 2, none⟩ = false ∧ wr.frozen? ⟨N1, 3, none⟩ = false ∧ wr.frozen? ⟨N1, 4, none⟩ = false ∧ wr.frozen? ⟨N1, 5, none⟩ = false) := by
 have h1 := h.r1
 simp [World.cell?, World.frozen?, h1, IR.cells]
theorem II.cells0 (h : II b s m bad far w wr N0 N1 i nc cs nr rc tl) :
  (wr.cell? ⟨N0, 0, none⟩ = some (.string ⟨#[]⟩) ∧ wr.cell? ⟨N0, 1, none⟩ = some (.int .i64 0) ∧ wr.cell? ⟨N0, 2, none⟩ = some (.int .u8 0) ∧ wr.cell? ⟨N0, 3, none⟩ = some (.bool false) ∧ wr.cell? ⟨N0, 4, none⟩ = some (.slice none 0 0) ∧ wr.cell? ⟨N0, 5, none⟩ = some (.slice none 0 0)) ∧
  (wr.frozen? ⟨N0, 0, none⟩ = false ∧ wr.frozen? ⟨N0, 1, none⟩ = false ∧ wr.frozen? ⟨N0, 2, none⟩ = false ∧ wr.frozen? ⟨N0, 3, none⟩ = false ∧ wr.frozen? ⟨N0, 4, none⟩ = false ∧ wr.frozen? ⟨N0, 5, none⟩ = false) := by
 have h0 := h.r0
 simp [World.cell?, World.frozen?, h0, IR.cells, IR.zero]
theorem II.done (h : II b s m bad far w wr N0 N1 i nc cs nr rc tl) (v0 v1 v2 v3 v4 v5 : Value) {wx : World} (e : wx = (((((wr.setCell ⟨N0, 0, none⟩ v0).setCell ⟨N0, 1, none⟩ v1).setCell ⟨N0, 2, none⟩ v2).setCell ⟨N0, 3, none⟩ v3).setCell ⟨N0, 4, none⟩ v4).setCell ⟨N0, 5, none⟩ v5) :
  Mv b w wx ∧ RR b s m bad far wx ∧ R3 w.heap.size wx i.cv i.rv nc cs nr rc tl := by
 subst e
 have h0 := h.n0
 have hb := h.hb
 have hne : ∀ i : Nat, b ≠ (⟨N0, i, none⟩ : Addr).block := fun i => by simp; omega
 refine ⟨(((((h.mv.setNew (a := ⟨N0, 0, none⟩) h0 v0).setNew (a := ⟨N0, 1, none⟩) h0 v1).setNew (a := ⟨N0, 2, none⟩) h0 v2).setNew (a := ⟨N0, 3, none⟩) h0 v3).setNew (a := ⟨N0, 4, none⟩) h0 v4).setNew (a := ⟨N0, 5, none⟩) h0 v5, h.rr.keep ?_, h.rows.keep (fun g c e he _ hg => ?_)⟩
 ·rw [Below.heap_setCell _ _ _ _ (hne 5), Below.heap_setCell _ _ _ _ (hne 4), Below.heap_setCell _ _ _ _ (hne 3), Below.heap_setCell _ _ _ _ (hne 2), Below.heap_setCell _ _ _ _ (hne 1), Below.heap_setCell _ _ _ _ (hne 0)]
 ·have hg0 : ∀ i : Nat, g ≠ (⟨N0, i, none⟩ : Addr).block := fun i eq => by
   simp at eq
   subst eq
   rw [h.r0] at hg
   simp at hg
   rcases he with rfl | rfl | rfl <;> exact absurd hg.2 (by decide)
  rw [Below.heap_setCell _ _ _ _ (hg0 5), Below.heap_setCell _ _ _ _ (hg0 4), Below.heap_setCell _ _ _ _ (hg0 3), Below.heap_setCell _ _ _ _ (hg0 2), Below.heap_setCell _ _ _ _ (hg0 1), Below.heap_setCell _ _ _ _ (hg0 0)]
theorem II.start (hr : RR b s m bad far w) (o1 o2 : Obj) (e1 : o1 = .cells IR.zero.cells 141) (e2 : o2 = o1) : II b s m bad far w ((w.alloc o1).alloc o2) w.heap.size (w.heap.size + 1) IR.zero 0 [] 0 [] [] := by
 subst e2
 have hl := hr.lt
 refine ⟨((Mv.refl _ _).alloc _).alloc _, hr.keep ?_, hl, Nat.le_refl _, by omega, by omega, ?_, ?_, World.ownsRow_nil _ _ _ _, World.ownsRow_nil _ _ _ _, fun x hx => by simp at hx⟩
 ·rw [Below.heap_alloc _ _ _ (by simp; omega), Below.heap_alloc _ _ _ hl]
 ·rw [Below.heap_alloc _ _ _ (by simp), alloc_last, e1]
 ·have := alloc_last (w.alloc o2) o2
  rw [show (w.alloc o2).heap.size = w.heap.size + 1 by simp] at this
  rw [this, e1]
end
def rmarks (it : PItem) : Int := if it.isT then (it.drops : Int) else (it.marks : Int)
def rdrops (it : PItem) : Bool := it.isT && decide (it.drops ≠ 0)
def ricells (it : PItem) (cv rv : Value) : Array Value := #[.string it.name, .int .i64 (rmarks it), .int .u8 it.policy, .bool (rdrops it), cv, rv]
def tlOf (vs : List Value) (rs : List PRule) : List (Value × Nat × List Value) := (vs.zip rs).map fun x => (x.1, x.2.tests.length, rtsCells x.2.tests)
def farItem (it : PItem) : Bool := it.rules.any farRule
def RItemAt (base : Nat) (w : World) (x : LItem) : Prop :=
 x.vs.length = x.it.rules.length ∧ R3 base w x.cv x.rv x.it.cols.length (x.it.cols.map Value.string) x.it.rules.length (rcells x.vs x.it.rules) (tlOf x.vs x.it.rules)
theorem nameR_next {s : ByteArray} {k : Nat} (hk : k ≤ s.size) : nameR s (nextP s k) = nameR s k := by
 unfold nameR; rw [nextP_idem hk]
set_option maxRecDepth 8000 in
set_option maxHeartbeats 6400000 in
theorem rinput_any (b : Nat) (s : ByteArray) (k : Nat) (far : Bool) (w : World) (hr : RR b s k false far w) (hs : s.size ≤ 1000) (hk : k ≤ s.size) (hb : nextP s k = k) :
  Calls Tryz.prog 109 #[.pointer (some ⟨b, 0, none⟩)] w fun e w' => (∃ p, inputR s k = .inl p ∧ (∃ nm mk po dr co cn cc ro rn rc, e = .returned (.agg #[.string nm, .int .i64 mk, .int .u8 po, .bool dr, .slice co cn cc, .slice ro rn rc])) ∧ Mv b w w' ∧ ∃ far', RR b s p true far' w') ∨ (∃ it q, inputR s k = .inr (it, q) ∧ ∃ co cn cc ro rn rc vs, e = .returned (.agg (ricells it (.slice co cn cc) (.slice ro rn rc))) ∧ Mv b w w' ∧ RR b s (nextP s q) false (far || farItem it) w' ∧ RItemAt w.heap.size w' ⟨it, .slice co cn cc, .slice ro rn rc, vs⟩) := by
 have hbl := hr.lt
 have HS := hide (II.start hr _ _ rfl rfl)
 clear hr
 go_enter Tryz.func109, Tryz.ntmps109
 go_wp2_with fail
 have HI := HS
 clear HS
 obtain ⟨⟨c0, c1, c2, c3, c4, c5⟩, f0, f1, f2, f3, f4, f5⟩ := (uh HI).cells
 obtain ⟨⟨d0, d1, d2, d3, d4, d5⟩, g0, g1, g2, g3, g4, g5⟩ := (uh HI).cells0
 simp only [IR.zero] at c0 c1 c2 c3 c4 c5
 cases hn : nameR s k with
 | inl p =>
  have HF : Hid (inputR s k = .inl p) := hide (by unfold inputR; rw [hn])
  refine (rname_no b s k far _ (uh HI).rr hs hk hb hn).mono ?_
  rintro e w3 ⟨rfl, hm3, hr3⟩
  have HJ := hide ((uh HI).moved hm3 hr3)
  clear HI c0 c1 c2 c3 c4 c5 f0 f1 f2 f3 f4 f5 d0 d1 d2 d3 d4 d5 g0 g1 g2 g3 g4 g5
  have HI := HJ
  clear HJ
  obtain ⟨⟨c0, c1, c2, c3, c4, c5⟩, f0, f1, f2, f3, f4, f5⟩ := (uh HI).cells
  obtain ⟨⟨d0, d1, d2, d3, d4, d5⟩, g0, g1, g2, g3, g4, g5⟩ := (uh HI).cells0
  simp only [IR.zero] at c0 c1 c2 c3 c4 c5
  clear hm3 hr3
  clear hn
  go_wp2_with (go_at_call 137; refine (rhere_any _ _ p true far _ (by exact ((uh HI).set0 _).rr)).mono ?_; rintro e w' ⟨rfl, j, rfl⟩; rw [hv_bad])
  refine (rone_no b s p 59 true far _ (((uh HI).set0 _).drewN _).rr (by omega) (Or.inl rfl)).mono ?_
  rintro e w3 ⟨rfl, hm3, hr3⟩
  have HJ := hide ((((uh HI).set0 _).drewN _).moved hm3 hr3)
  clear HI c0 c1 c2 c3 c4 c5 f0 f1 f2 f3 f4 f5 d0 d1 d2 d3 d4 d5 g0 g1 g2 g3 g4 g5
  have HI := HJ
  clear HJ
  obtain ⟨⟨c0, c1, c2, c3, c4, c5⟩, f0, f1, f2, f3, f4, f5⟩ := (uh HI).cells
  obtain ⟨⟨d0, d1, d2, d3, d4, d5⟩, g0, g1, g2, g3, g4, g5⟩ := (uh HI).cells0
  simp only [IR.zero] at c0 c1 c2 c3 c4 c5
  clear hm3 hr3
  go_wp2
  exact bodyPost_ret (v := .agg #[.string ByteArray.empty, .int .i64 0, .int .u8 0, .bool false, .slice none 0 0, .slice none 0 0]) (by simp [results, Tryz.results109, go_sem, d0, d1, d2, d3, d4, d5]) rfl (Or.inl ⟨p, uh HF, ⟨_, _, _, _, _, _, _, _, _, _, rfl⟩, ((uh HI).done _ _ _ _ _ _ rfl).1, _, ((uh HI).done _ _ _ _ _ _ rfl).2.1⟩)
 | inr xq =>
  obtain ⟨x, q⟩ := xq
  have hnb := nameR_bd hk hn
  have hpq := nextP_le hnb.2.1
  have hpp := nextP_idem hnb.2.1
  refine (rname_yes b s k far _ (uh HI).rr hs hk hb hn).mono ?_
  rintro e w3 ⟨rfl, hm3, hr3⟩
  have HJ := hide ((uh HI).moved hm3 hr3)
  clear HI c0 c1 c2 c3 c4 c5 f0 f1 f2 f3 f4 f5 d0 d1 d2 d3 d4 d5 g0 g1 g2 g3 g4 g5
  have HI := HJ
  clear HJ
  obtain ⟨⟨c0, c1, c2, c3, c4, c5⟩, f0, f1, f2, f3, f4, f5⟩ := (uh HI).cells
  obtain ⟨⟨d0, d1, d2, d3, d4, d5⟩, g0, g1, g2, g3, g4, g5⟩ := (uh HI).cells0
  simp only [IR.zero] at c0 c1 c2 c3 c4 c5
  clear hm3 hr3
  have HN := hide hn
  clear hn
  generalize hm1 : nextP s q = m1 at *
  have HM1 := hide hm1
  clear hm1
  cases h47 : inR s m1 47 47 with
  | false =>
   have HIN : Hid (inputR s k = endIn s m1 ⟨x, false, 0, 0, [], 0, []⟩) := hide (by unfold inputR; rw [uh HN]; simp only; rw [uh HM1, h47]; rfl)
   have c47 := hv_ne (c := 47) (by omega) h47
   clear h47
   generalize hx : hv s m1 false = z at *
   have HX := hide hx
   clear hx
   go_wp2_with (go_at_call 137; refine (rhere_any _ _ m1 false _ _ (by exact ((uh HI).set0 _).rr)).mono ?_; rintro e w' ⟨rfl, j, rfl⟩; rw [uh HX])
   cases h59 : inR s m1 59 59 with
   | false =>
    have HF : Hid (inputR s k = .inl m1) := hide (by rw [uh HIN]; unfold endIn; rw [hpp, h59]; rfl)
    refine (rone_no b s m1 59 false far _ (((uh HI).set0 x).drewN _).rr (by omega) (Or.inr h59)).mono ?_
    rintro e w3 ⟨rfl, hm3, hr3⟩
    have HJ := hide ((((uh HI).set0 x).drewN _).moved hm3 hr3)
    clear HI c0 c1 c2 c3 c4 c5 f0 f1 f2 f3 f4 f5 d0 d1 d2 d3 d4 d5 g0 g1 g2 g3 g4 g5
    have HI := HJ
    clear HJ
    obtain ⟨⟨c0, c1, c2, c3, c4, c5⟩, f0, f1, f2, f3, f4, f5⟩ := (uh HI).cells
    obtain ⟨⟨d0, d1, d2, d3, d4, d5⟩, g0, g1, g2, g3, g4, g5⟩ := (uh HI).cells0
    simp only [IR.zero] at c0 c1 c2 c3 c4 c5
    clear hm3 hr3
    clear h59
    go_wp2
    exact bodyPost_ret (v := .agg #[.string x, .int .i64 (0 : Nat), .int .u8 0, .bool false, .slice none 0 0, .slice none 0 0]) (by simp [results, Tryz.results109, go_sem, d0, d1, d2, d3, d4, d5]) rfl (Or.inl ⟨m1, uh HF, ⟨_, _, _, _, _, _, _, _, _, _, rfl⟩, ((uh HI).done _ _ _ _ _ _ rfl).1, _, ((uh HI).done _ _ _ _ _ _ rfl).2.1⟩)
   | true =>
    have HF : Hid (inputR s k = .inr (⟨x, false, 0, 0, [], 0, []⟩, m1 + 1)) := hide (by rw [uh HIN]; unfold endIn; rw [hpp, h59]; rfl)
    refine (rone_yes b s m1 59 far _ (((uh HI).set0 x).drewN _).rr hs (by omega) h59).mono ?_
    rintro e w3 ⟨rfl, hm3, hr3⟩
    have HJ := hide ((((uh HI).set0 x).drewN _).moved hm3 hr3)
    clear HI c0 c1 c2 c3 c4 c5 f0 f1 f2 f3 f4 f5 d0 d1 d2 d3 d4 d5 g0 g1 g2 g3 g4 g5
    have HI := HJ
    clear HJ
    obtain ⟨⟨c0, c1, c2, c3, c4, c5⟩, f0, f1, f2, f3, f4, f5⟩ := (uh HI).cells
    obtain ⟨⟨d0, d1, d2, d3, d4, d5⟩, g0, g1, g2, g3, g4, g5⟩ := (uh HI).cells0
    simp only [IR.zero] at c0 c1 c2 c3 c4 c5
    clear hm3 hr3
    clear h59
    go_wp2
    exact bodyPost_ret (v := .agg (ricells ⟨x, false, 0, 0, [], 0, []⟩ (.slice none 0 0) (.slice none 0 0))) (by simp [results, Tryz.results109, go_sem, ricells, rmarks, rdrops, d0, d1, d2, d3, d4, d5]) rfl (Or.inr ⟨⟨x, false, 0, 0, [], 0, []⟩, m1 + 1, uh HF, _, _, _, _, _, _, [], rfl, ((uh HI).done _ _ _ _ _ _ rfl).1, by rw [show (far || farItem ⟨x, false, 0, 0, [], 0, []⟩) = far from by cases far <;> rfl]; exact ((uh HI).done _ _ _ _ _ _ rfl).2.1, rfl, ((uh HI).done _ _ _ _ _ _ rfl).2.2⟩)
  | true =>
   have hlt := inR_lt (by omega) h47
   have HX := hide (hv_yes h47 (by omega))
   have b1 := (uh HI).rr.at
   have q1 := (uh HI).rr.free 1
   go_wp2_with (go_at_call 137; refine (rhere_any _ _ m1 false _ _ (by exact ((uh HI).set0 _).rr)).mono ?_; rintro e w' ⟨rfl, j, rfl⟩; rw [uh HX])
   cases hmk : marksR s (m1 + 1) with
   | inl p =>
    have HF : Hid (inputR s k = .inl p) := hide (by unfold inputR; rw [uh HN]; simp only; rw [uh HM1, h47, if_pos rfl, hmk])
    clear h47
    refine (rmarks_no b s (m1 + 1) far _ (((uh HI).set0 x).drewN _).setAt1.rr hs (by omega) hmk).mono ?_
    rintro e w3 ⟨rfl, hm3, hr3⟩
    have HJ := hide (((((uh HI).set0 x).drewN _).setAt1).moved hm3 hr3)
    clear HI c0 c1 c2 c3 c4 c5 f0 f1 f2 f3 f4 f5 d0 d1 d2 d3 d4 d5 g0 g1 g2 g3 g4 g5
    have HI := HJ
    clear HJ
    obtain ⟨⟨c0, c1, c2, c3, c4, c5⟩, f0, f1, f2, f3, f4, f5⟩ := (uh HI).cells
    obtain ⟨⟨d0, d1, d2, d3, d4, d5⟩, g0, g1, g2, g3, g4, g5⟩ := (uh HI).cells0
    simp only [IR.zero] at c0 c1 c2 c3 c4 c5
    clear hm3 hr3
    clear hmk b1 q1
    go_wp2_with fail
    refine (rone_no b s p 59 true far _ ((uh HI).set1 0).rr (by omega) (Or.inl rfl)).mono ?_
    rintro e w3 ⟨rfl, hm3, hr3⟩
    have HJ := hide (((uh HI).set1 0).moved hm3 hr3)
    clear HI c0 c1 c2 c3 c4 c5 f0 f1 f2 f3 f4 f5 d0 d1 d2 d3 d4 d5 g0 g1 g2 g3 g4 g5
    have HI := HJ
    clear HJ
    obtain ⟨⟨c0, c1, c2, c3, c4, c5⟩, f0, f1, f2, f3, f4, f5⟩ := (uh HI).cells
    obtain ⟨⟨d0, d1, d2, d3, d4, d5⟩, g0, g1, g2, g3, g4, g5⟩ := (uh HI).cells0
    simp only [IR.zero] at c0 c1 c2 c3 c4 c5
    clear hm3 hr3
    go_wp2
    exact bodyPost_ret (v := .agg #[.string x, .int .i64 0, .int .u8 0, .bool false, .slice none 0 0, .slice none 0 0]) (by simp [results, Tryz.results109, go_sem, d0, d1, d2, d3, d4, d5]) rfl (Or.inl ⟨p, uh HF, ⟨_, _, _, _, _, _, _, _, _, _, rfl⟩, ((uh HI).done _ _ _ _ _ _ rfl).1, _, ((uh HI).done _ _ _ _ _ _ rfl).2.1⟩)
   | inr vq =>
    obtain ⟨v, r⟩ := vq
    have HIN : Hid (inputR s k = endIn s r ⟨x, false, v, 0, [], 0, []⟩) := hide (by unfold inputR; rw [uh HN]; simp only; rw [uh HM1, h47, if_pos rfl, hmk])
    clear h47
    refine (rmarks_yes b s (m1 + 1) far _ (((uh HI).set0 x).drewN _).setAt1.rr hs (by omega) hmk).mono ?_
    rintro e w3 ⟨rfl, hm3, hr3⟩
    have HJ := hide (((((uh HI).set0 x).drewN _).setAt1).moved hm3 hr3)
    clear HI c0 c1 c2 c3 c4 c5 f0 f1 f2 f3 f4 f5 d0 d1 d2 d3 d4 d5 g0 g1 g2 g3 g4 g5
    have HI := HJ
    clear HJ
    obtain ⟨⟨c0, c1, c2, c3, c4, c5⟩, f0, f1, f2, f3, f4, f5⟩ := (uh HI).cells
    obtain ⟨⟨d0, d1, d2, d3, d4, d5⟩, g0, g1, g2, g3, g4, g5⟩ := (uh HI).cells0
    simp only [IR.zero] at c0 c1 c2 c3 c4 c5
    clear hm3 hr3
    clear hmk b1 q1
    go_wp2_with fail
    cases h59 : inR s (nextP s r) 59 59 with
    | false =>
     have HF : Hid (inputR s k = .inl (nextP s r)) := hide (by rw [uh HIN]; unfold endIn; rw [show nextP s r = nextP s r from rfl, h59]; rfl)
     refine (rone_no b s (nextP s r) 59 false far _ ((uh HI).set1 v).rr (by omega) (Or.inr h59)).mono ?_
     rintro e w3 ⟨rfl, hm3, hr3⟩
     have HJ := hide (((uh HI).set1 v).moved hm3 hr3)
     clear HI c0 c1 c2 c3 c4 c5 f0 f1 f2 f3 f4 f5 d0 d1 d2 d3 d4 d5 g0 g1 g2 g3 g4 g5
     have HI := HJ
     clear HJ
     obtain ⟨⟨c0, c1, c2, c3, c4, c5⟩, f0, f1, f2, f3, f4, f5⟩ := (uh HI).cells
     obtain ⟨⟨d0, d1, d2, d3, d4, d5⟩, g0, g1, g2, g3, g4, g5⟩ := (uh HI).cells0
     simp only [IR.zero] at c0 c1 c2 c3 c4 c5
     clear hm3 hr3
     clear h59
     go_wp2
     exact bodyPost_ret (v := .agg #[.string x, .int .i64 (v : Nat), .int .u8 0, .bool false, .slice none 0 0, .slice none 0 0]) (by simp [results, Tryz.results109, go_sem, d0, d1, d2, d3, d4, d5]) rfl (Or.inl ⟨(nextP s r), uh HF, ⟨_, _, _, _, _, _, _, _, _, _, rfl⟩, ((uh HI).done _ _ _ _ _ _ rfl).1, _, ((uh HI).done _ _ _ _ _ _ rfl).2.1⟩)
    | true =>
     have HF : Hid (inputR s k = .inr (⟨x, false, v, 0, [], 0, []⟩, (nextP s r) + 1)) := hide (by rw [uh HIN]; unfold endIn; rw [show nextP s r = nextP s r from rfl, h59]; rfl)
     refine (rone_yes b s (nextP s r) 59 far _ ((uh HI).set1 v).rr hs (by omega) h59).mono ?_
     rintro e w3 ⟨rfl, hm3, hr3⟩
     have HJ := hide (((uh HI).set1 v).moved hm3 hr3)
     clear HI c0 c1 c2 c3 c4 c5 f0 f1 f2 f3 f4 f5 d0 d1 d2 d3 d4 d5 g0 g1 g2 g3 g4 g5
     have HI := HJ
     clear HJ
     obtain ⟨⟨c0, c1, c2, c3, c4, c5⟩, f0, f1, f2, f3, f4, f5⟩ := (uh HI).cells
     obtain ⟨⟨d0, d1, d2, d3, d4, d5⟩, g0, g1, g2, g3, g4, g5⟩ := (uh HI).cells0
     simp only [IR.zero] at c0 c1 c2 c3 c4 c5
     clear hm3 hr3
     clear h59
     go_wp2
     exact bodyPost_ret (v := .agg (ricells ⟨x, false, v, 0, [], 0, []⟩ (.slice none 0 0) (.slice none 0 0))) (by simp [results, Tryz.results109, go_sem, ricells, rmarks, rdrops, d0, d1, d2, d3, d4, d5]) rfl (Or.inr ⟨⟨x, false, v, 0, [], 0, []⟩, (nextP s r) + 1, uh HF, _, _, _, _, _, _, [], rfl, ((uh HI).done _ _ _ _ _ _ rfl).1, by rw [show (far || farItem ⟨x, false, v, 0, [], 0, []⟩) = far from by cases far <;> rfl]; exact ((uh HI).done _ _ _ _ _ _ rfl).2.1, rfl, ((uh HI).done _ _ _ _ _ _ rfl).2.2⟩)
end Go.Proofs.YthnggjaecngbiaaGreatDoor
namespace Go.Proofs.YthnggjaecngbiaaGreatDoor
open Go.RowKit
theorem colsR_fuel (s : ByteArray) : ∀ (f g k : Nat) (xs : List ByteArray), k ≤ s.size → s.size + 1 - k ≤ f → s.size + 1 - k ≤ g → colsR s f k xs = colsR s g k xs := by
 intro f
 induction f with
 | zero => intro g k ts hk hf hg; omega
 | succ f ih =>
  intro g k xs hk hf hg
  obtain ⟨g', rfl⟩ : ∃ g', g = g' + 1 := ⟨g - 1, by omega⟩
  simp only [colsR]
  split
  ·rename_i h
   have hlt := inR_lt (by omega) h
   have hge := nextP_ge s k
   cases hn : nameR s (nextP s k + 1) with
   | inl p => rfl
   | inr tq =>
    obtain ⟨t, q⟩ := tq
    have hbd := nameR_bd (by omega) hn
    exact ih g' q _ hbd.2.1 (by omega) (by omega)
  ·rfl
def headC (s : ByteArray) (k : Nat) (xs : List ByteArray) : Res (List ByteArray) :=
 match nameR s k with
 | .inl p => .inl p
 | .inr (x, q) => colsR s (s.size + 1 - q) q (xs ++ [x])
theorem headC_next {s : ByteArray} {k : Nat} (hk : k ≤ s.size) (xs : List ByteArray) : headC s (nextP s k) xs = headC s k xs := by
 unfold headC; rw [nameR_next hk]
theorem headC_comma {s : ByteArray} {q : Nat} {xs : List ByteArray} (hq : q ≤ s.size) (h : inR s (nextP s q) 44 44 = true) : colsR s (s.size + 1 - q) q xs = headC s (nextP s q + 1) xs := by
 obtain ⟨f, hf⟩ : ∃ f, s.size + 1 - q = f + 1 := ⟨s.size - q, by omega⟩
 have hlt := inR_lt (by omega) h
 have hge := nextP_ge s q
 rw [hf]
 simp only [colsR]
 rw [if_pos h]
 unfold headC
 cases hn : nameR s (nextP s q + 1) with
 | inl p => rfl
 | inr tq =>
  obtain ⟨t, q'⟩ := tq
  have hbd := nameR_bd (by omega) hn
  exact colsR_fuel s _ _ _ _ hbd.2.1 (by omega) (by omega)
theorem headC_end {s : ByteArray} {q : Nat} {xs : List ByteArray} (hq : q ≤ s.size) (h : inR s (nextP s q) 44 44 = false) : colsR s (s.size + 1 - q) q xs = if inR s (nextP s q) 41 41 then .inr (xs, nextP s q + 1) else .inl (nextP s q) := by
 obtain ⟨f, hf⟩ : ∃ f, s.size + 1 - q = f + 1 := ⟨s.size - q, by omega⟩
 rw [hf]
 simp only [colsR]
 rw [if_neg (by rw [h]; simp)]
theorem columnsR_head {s : ByteArray} {k : Nat} (h : inR s (nextP s k) 40 40 = true) : columnsR s k = headC s (nextP s k + 1) [] := by
 unfold columnsR headC
 rw [if_pos h]
 rfl
theorem ruleR_next {s : ByteArray} {k : Nat} (hk : k ≤ s.size) : ruleR s (nextP s k) = ruleR s k := by
 unfold ruleR; rw [testR_next hk]
theorem rulesR_fuel (s : ByteArray) : ∀ (f g k : Nat) (it : PItem), k ≤ s.size → s.size + 1 - k ≤ f → s.size + 1 - k ≤ g → rulesR s f k it = rulesR s g k it := by
 intro f
 induction f with
 | zero => intro g k it hk hf hg; omega
 | succ f ih =>
  intro g k it hk hf hg
  obtain ⟨g', rfl⟩ : ∃ g', g = g' + 1 := ⟨g - 1, by omega⟩
  simp only [rulesR]
  split
  ·rfl
  ·have hle := nextP_le hk
   have hge := nextP_ge s k
   cases hn : ruleR s (nextP s k) with
   | inl p => rfl
   | inr tq =>
    obtain ⟨t, q⟩ := tq
    have hbd := ruleR_bd hle hn
    exact ih g' q _ hbd.2 (by omega) (by omega)
theorem rulesR_next {s : ByteArray} {k : Nat} (hk : k ≤ s.size) (it : PItem) : rulesR s (s.size + 1 - k) k it = rulesR s (s.size + 1 - nextP s k) (nextP s k) it := by
 have hle := nextP_le hk
 have hge := nextP_ge s k
 rw [rulesR_fuel s (s.size + 1 - nextP s k) (s.size + 1 - k) _ _ hle (by omega) (by omega)]
 obtain ⟨f, hf⟩ : ∃ f, s.size + 1 - k = f + 1 := ⟨s.size - k, by omega⟩
 rw [hf]
 simp only [rulesR]
 rw [nextP_idem hk]
theorem rulesR_close {s : ByteArray} {k : Nat} {it : PItem} (hk : k ≤ s.size) (hb : nextP s k = k) (h : inR s k 125 125 = true) : rulesR s (s.size + 1 - k) k it = .inr (it, k + 1) := by
 obtain ⟨f, hf⟩ : ∃ f, s.size + 1 - k = f + 1 := ⟨s.size - k, by omega⟩
 rw [hf]
 simp only [rulesR]
 rw [hb, if_pos h]
theorem rulesR_no {s : ByteArray} {k p : Nat} {it : PItem} (hk : k ≤ s.size) (hb : nextP s k = k) (h : inR s k 125 125 = false) (hr : ruleR s k = .inl p) : rulesR s (s.size + 1 - k) k it = .inl p := by
 obtain ⟨f, hf⟩ : ∃ f, s.size + 1 - k = f + 1 := ⟨s.size - k, by omega⟩
 rw [hf]
 simp only [rulesR]
 rw [hb, if_neg (by rw [h]; simp), hr]
theorem rulesR_step {s : ByteArray} {k q : Nat} {it : PItem} {r : PRule} (hk : k ≤ s.size) (hb : nextP s k = k) (h : inR s k 125 125 = false) (hr : ruleR s k = .inr (r, q)) : rulesR s (s.size + 1 - k) k it = rulesR s (s.size + 1 - nextP s q) (nextP s q) { it with rules := it.rules ++ [r] } := by
 obtain ⟨f, hf⟩ : ∃ f, s.size + 1 - k = f + 1 := ⟨s.size - k, by omega⟩
 have hbd := ruleR_bd hk hr
 rw [← rulesR_next hbd.2, hf]
 simp only [rulesR]
 rw [hb, if_neg (by rw [h]; simp), hr]
 exact rulesR_fuel s _ _ _ _ hbd.2 (by omega) (by omega)
def tabC (s : ByteArray) (x : ByteArray) (c : Int) : Res (List ByteArray) → Res PItem
 | .inl p => .inl p
 | .inr (xs, q) => dropsR s q ⟨x, true, 0, c, xs, 0, []⟩
theorem Tryz.info_rrule : (Tryz.prog.info? 179).map (fun i => (i.zero, i.size, i.bytes)) = some (some (.agg #[.slice none 0 0, .int .i64 0]), 2, 32) := by kernel_rfl
theorem tlOf_push {vs : List Value} {rs : List PRule} (h : vs.length = rs.length) (v : Value) (r : PRule) : tlOf (vs ++ [v]) (rs ++ [r]) = tlOf vs rs ++ [(v, r.tests.length, rtsCells r.tests)] := by
 unfold tlOf; rw [List.zip_append h]; simp
theorem rrule_yes (b : Nat) (s : ByteArray) (k : Nat) (far : Bool) (w : World) (hr : RR b s k false far w) (hs : s.size ≤ 1000) (hk : k ≤ s.size) (hb : nextP s k = k) {r : PRule} {q : Nat} (h : ruleR s k = .inr (r, q)) :
  Calls Tryz.prog 142 #[.pointer (some ⟨b, 0, none⟩)] w fun e w' => ∃ o n c, e = .returned (.agg #[.slice o n c, .int .i64 r.num]) ∧ Mv b w w' ∧ RR b s (nextP s q) false (far || farRule r) w' ∧ w'.ownsRow w.heap.size 181 4 (.slice o n c) r.tests.length (rtsCells r.tests) := by
 refine (rrule_any b s k far w hr hs hk hb).mono ?_
 rintro e w' (⟨p, h1, _⟩ | ⟨v', q', h1, h2⟩)
 ·rw [h] at h1; cases h1
 ·rw [h] at h1; cases h1; exact h2
theorem rrule_no (b : Nat) (s : ByteArray) (k : Nat) (far : Bool) (w : World) (hr : RR b s k false far w) (hs : s.size ≤ 1000) (hk : k ≤ s.size) (hb : nextP s k = k) {p : Nat} (h : ruleR s k = .inl p) :
  Calls Tryz.prog 142 #[.pointer (some ⟨b, 0, none⟩)] w fun e w' => ∃ o n c z far', e = .returned (.agg #[.slice o n c, .int .i64 z]) ∧ Mv b w w' ∧ RR b s p true far' w' := by
 refine (rrule_any b s k far w hr hs hk hb).mono ?_
 rintro e w' (⟨p, h1, ⟨o, n, c, z, h2⟩, h3, far', h4⟩ | ⟨v', q', h1, h2⟩)
 ·rw [h] at h1; cases h1; exact ⟨o, n, c, z, far', h2, h3, h4⟩
 ·rw [h] at h1; cases h1
theorem isPol_cases {c : Int} (h : isPol c = true) : c = 85 ∨ c = 70 ∨ c = 83 ∨ c = 78 ∨ c = 80 := by unfold isPol at h; simpa using h
theorem isPol_not {c : Int} (h : isPol c = false) : ¬ c = 85 ∧ ¬ c = 70 ∧ ¬ c = 83 ∧ ¬ c = 78 ∧ ¬ c = 80 := by unfold isPol at h; simpa using h
theorem marksR_ne {s : ByteArray} {k d q : Nat} (h : marksR s k = .inr (d, q)) : d ≠ 0 := by
 unfold marksR at h
 split at h
 ·cases h
 ·cases h; assumption
set_option maxRecDepth 8000 in
set_option maxHeartbeats 25600000 in
theorem rtable_no (b : Nat) (s : ByteArray) (k : Nat) (far : Bool) (w : World) (hr : RR b s k false far w) (hs : s.size ≤ 1000) (hk : k ≤ s.size) (hb : nextP s k = k) {p : Nat} (hn : nameR s k = .inl p) :
  Calls Tryz.prog 110 #[.pointer (some ⟨b, 0, none⟩)] w fun e w' => (∃ p, tableR s k = .inl p ∧ (∃ nm mk po dr co cn cc ro rn rc, e = .returned (.agg #[.string nm, .int .i64 mk, .int .u8 po, .bool dr, .slice co cn cc, .slice ro rn rc])) ∧ Mv b w w' ∧ ∃ far', RR b s p true far' w') ∨ (∃ it q, tableR s k = .inr (it, q) ∧ ∃ co cn cc ro rn rc vs, e = .returned (.agg (ricells it (.slice co cn cc) (.slice ro rn rc))) ∧ Mv b w w' ∧ RR b s (nextP s q) false (far || farItem it) w' ∧ RItemAt w.heap.size w' ⟨it, .slice co cn cc, .slice ro rn rc, vs⟩) := by
 have hbl := hr.lt
 obtain ⟨i0, hi, hz0, hz1, hz2⟩ := info_parts Tryz.info_string
 obtain ⟨j0, ki, kz0, kz1, kz2⟩ := info_parts Tryz.info_rrule
 have HS := hide (II.start hr _ _ rfl rfl)
 clear hr
 go_enter Tryz.func110, Tryz.ntmps110
 go_wp2_with fail
 have HI := HS
 clear HS
 obtain ⟨⟨c0, c1, c2, c3, c4, c5⟩, f0, f1, f2, f3, f4, f5⟩ := (uh HI).cells
 obtain ⟨⟨d0, d1, d2, d3, d4, d5⟩, g0, g1, g2, g3, g4, g5⟩ := (uh HI).cells0
 simp only [IR.zero] at c0 c1 c2 c3 c4 c5
 have HF : Hid (tableR s k = .inl p) := hide (by unfold tableR; rw [hn])
 refine (rname_no b s k far _ (uh HI).rr hs hk hb hn).mono ?_
 rintro e w3 ⟨rfl, hm3, hr3⟩
 have HJ := hide ((uh HI).moved hm3 hr3)
 clear HI c0 c1 c2 c3 c4 c5 f0 f1 f2 f3 f4 f5 d0 d1 d2 d3 d4 d5 g0 g1 g2 g3 g4 g5
 have HI := HJ
 clear HJ
 obtain ⟨⟨c0, c1, c2, c3, c4, c5⟩, f0, f1, f2, f3, f4, f5⟩ := (uh HI).cells
 obtain ⟨⟨d0, d1, d2, d3, d4, d5⟩, g0, g1, g2, g3, g4, g5⟩ := (uh HI).cells0
 simp only [IR.zero] at c0 c1 c2 c3 c4 c5
 clear hm3 hr3
 clear hn
 have b2 := (uh HI).rr.badC
 have q2 := (uh HI).rr.free 2
 go_wp2_with (go_at_call 137; refine (rhere_any _ _ p true far _ (by exact ((uh HI).set0 _).rr)).mono ?_; rintro e w' ⟨rfl, j, rfl⟩; rw [hv_bad])
 exact bodyPost_ret (v := .agg #[.string ByteArray.empty, .int .i64 0, .int .u8 0, .bool false, .slice none 0 0, .slice none 0 0]) (by simp [results, Tryz.results110, go_sem, d0, d1, d2, d3, d4, d5]) rfl (Or.inl ⟨p, uh HF, ⟨_, _, _, _, _, _, _, _, _, _, rfl⟩, (((((uh HI).set0 _).drewN _).setBad true).done _ _ _ _ _ _ rfl).1, _, (((((uh HI).set0 _).drewN _).setBad true).done _ _ _ _ _ _ rfl).2.1⟩)
set_option maxRecDepth 8000 in
set_option maxHeartbeats 25600000 in
theorem rtable_pol (b : Nat) (s : ByteArray) (k : Nat) (far : Bool) (w : World) (hr : RR b s k false far w) (hs : s.size ≤ 1000) (hk : k ≤ s.size) (hb : nextP s k = k) {x : ByteArray} {q : Nat} (hn : nameR s k = .inr (x, q)) (hpol : isPol (byteAt s (nextP s q)) = false) :
  Calls Tryz.prog 110 #[.pointer (some ⟨b, 0, none⟩)] w fun e w' => (∃ p, tableR s k = .inl p ∧ (∃ nm mk po dr co cn cc ro rn rc, e = .returned (.agg #[.string nm, .int .i64 mk, .int .u8 po, .bool dr, .slice co cn cc, .slice ro rn rc])) ∧ Mv b w w' ∧ ∃ far', RR b s p true far' w') ∨ (∃ it q, tableR s k = .inr (it, q) ∧ ∃ co cn cc ro rn rc vs, e = .returned (.agg (ricells it (.slice co cn cc) (.slice ro rn rc))) ∧ Mv b w w' ∧ RR b s (nextP s q) false (far || farItem it) w' ∧ RItemAt w.heap.size w' ⟨it, .slice co cn cc, .slice ro rn rc, vs⟩) := by
 have hbl := hr.lt
 obtain ⟨i0, hi, hz0, hz1, hz2⟩ := info_parts Tryz.info_string
 obtain ⟨j0, ki, kz0, kz1, kz2⟩ := info_parts Tryz.info_rrule
 have HS := hide (II.start hr _ _ rfl rfl)
 clear hr
 go_enter Tryz.func110, Tryz.ntmps110
 go_wp2_with fail
 have HI := HS
 clear HS
 obtain ⟨⟨c0, c1, c2, c3, c4, c5⟩, f0, f1, f2, f3, f4, f5⟩ := (uh HI).cells
 obtain ⟨⟨d0, d1, d2, d3, d4, d5⟩, g0, g1, g2, g3, g4, g5⟩ := (uh HI).cells0
 simp only [IR.zero] at c0 c1 c2 c3 c4 c5
 have hnb := nameR_bd hk hn
 have hpq := nextP_le hnb.2.1
 refine (rname_yes b s k far _ (uh HI).rr hs hk hb hn).mono ?_
 rintro e w3 ⟨rfl, hm3, hr3⟩
 have HJ := hide ((uh HI).moved hm3 hr3)
 clear HI c0 c1 c2 c3 c4 c5 f0 f1 f2 f3 f4 f5 d0 d1 d2 d3 d4 d5 g0 g1 g2 g3 g4 g5
 have HI := HJ
 clear HJ
 obtain ⟨⟨c0, c1, c2, c3, c4, c5⟩, f0, f1, f2, f3, f4, f5⟩ := (uh HI).cells
 obtain ⟨⟨d0, d1, d2, d3, d4, d5⟩, g0, g1, g2, g3, g4, g5⟩ := (uh HI).cells0
 simp only [IR.zero] at c0 c1 c2 c3 c4 c5
 clear hm3 hr3
 have HN := hide hn
 clear hn
 generalize hm1 : nextP s q = m1 at *
 have HM1 := hide hm1
 clear hm1
 have HF : Hid (tableR s k = .inl m1) := hide (by unfold tableR; rw [uh HN]; simp only; unfold policyR; rw [uh HM1, hpol]; rfl)
 obtain ⟨p1, p2, p3, p4, p5⟩ := isPol_not hpol
 have e1 : (hv s m1 false == 85) = false := hv_ne (by omega) (by rw [inR_one]; simpa using p1)
 have n1 : (hv s m1 false != 85) = true := by simp only [bne, e1]; rfl
 have e2 : (hv s m1 false == 70) = false := hv_ne (by omega) (by rw [inR_one]; simpa using p2)
 have n2 : (hv s m1 false != 70) = true := by simp only [bne, e2]; rfl
 have e3 : (hv s m1 false == 83) = false := hv_ne (by omega) (by rw [inR_one]; simpa using p3)
 have n3 : (hv s m1 false != 83) = true := by simp only [bne, e3]; rfl
 have e4 : (hv s m1 false == 78) = false := hv_ne (by omega) (by rw [inR_one]; simpa using p4)
 have n4 : (hv s m1 false != 78) = true := by simp only [bne, e4]; rfl
 have e5 : (hv s m1 false == 80) = false := hv_ne (by omega) (by rw [inR_one]; simpa using p5)
 have n5 : (hv s m1 false != 80) = true := by simp only [bne, e5]; rfl
 clear hpol p1 p2 p3 p4 p5
 generalize hx : hv s m1 false = z at *
 have HX := hide hx
 clear hx
 have b2 := (uh HI).rr.badC
 have q2 := (uh HI).rr.free 2
 go_wp2_with (go_at_call 137; refine (rhere_any _ _ m1 false _ _ (by exact ((uh HI).set0 _).rr)).mono ?_; rintro e w' ⟨rfl, j, rfl⟩; rw [uh HX])
 exact bodyPost_ret (v := .agg #[.string x, .int .i64 0, .int .u8 0, .bool false, .slice none 0 0, .slice none 0 0]) (by simp [results, Tryz.results110, go_sem, d0, d1, d2, d3, d4, d5]) rfl (Or.inl ⟨m1, uh HF, ⟨_, _, _, _, _, _, _, _, _, _, rfl⟩, (((((uh HI).set0 _).drewN _).setBad true).done _ _ _ _ _ _ rfl).1, _, (((((uh HI).set0 _).drewN _).setBad true).done _ _ _ _ _ _ rfl).2.1⟩)
end Go.Proofs.YthnggjaecngbiaaGreatDoor
