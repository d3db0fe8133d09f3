import Derived.Test.YtdgbmcbkbkbdoaaGreatDoorRdG
namespace Go.Proofs.YtdgbmcbkbkbdoaaGreatDoor
open Go.RowKit
structure RuleInv (b : Nat) (s : ByteArray) (m : Nat) (w wr : World) (N0 N1 : Nat) (v : Value) (nv : Int) (ts : List PTest) : Prop where
 mv : Moved 147 b s m w wr
 hb : b < w.heap.size
 n0 : w.heap.size ≤ N0
 n1 : w.heap.size ≤ N1
 ne : N0 ≠ N1
 r0 : wr.heap[N0]? = some (.cells #[.slice none 0 0, .int .i64 0] 155)
 r1 : wr.heap[N1]? = some (.cells #[v, .int .i64 nv] 155)
 own : wr.ownsRow w.heap.size 185 4 v ts.length (tsCells ts)
theorem RuleInv.moved {b : Nat} {s : ByteArray} {m m' : Nat} {w wr wr' : World} {N0 N1 : Nat} {v : Value} {nv : Int} {ts : List PTest} (h : RuleInv b s m w wr N0 N1 v nv ts) (g : Moved 147 b s m' wr wr') : RuleInv b s m' w wr' N0 N1 v nv ts :=
 ⟨h.mv.trans g, h.hb, h.n0, h.n1, h.ne, by rw [g.block _ (lt_of_block h.r0) (by have := h.n0; have := h.hb; omega)]; exact h.r0, by rw [g.block _ (lt_of_block h.r1) (by have := h.n1; have := h.hb; omega)]; exact h.r1, owns_moved h.own g h.hb⟩
theorem owns_form {w : World} {base : Nat} {e : TypeId} {size : Nat} {v : Value} {n : Nat} {xs : List Value} (h : w.ownsRow base e size v n xs) : ∃ ao k cap, v = .slice ao k cap := by
 obtain ⟨_, h2⟩ := h
 rcases h2 with ⟨rfl, _⟩ | ⟨g, cap, cur, rfl, _⟩
 ·exact ⟨_, _, _, rfl⟩
 ·exact ⟨_, _, _, rfl⟩
theorem heap_set_same {w : World} {N i : Nat} {c : Array Value} {T : TypeId} (h : w.heap[N]? = some (.cells c T)) (u : Value) : (w.setCell ⟨N, i, none⟩ u).heap[N]? = some (.cells (c.setIfInBounds i u) T) := by
 simp [World.setCell, Array.getElem?_modify, h]
theorem RuleInv.pushed {b : Nat} {s : ByteArray} {m : Nat} {w wr w5 : World} {N0 N1 : Nat} {v v' : Value} {nv : Int} {ts : List PTest} {t : PTest} {o : Obj} {n : Nat} (h : RuleInv b s m w wr N0 N1 v nv ts) (g : (wr.alloc o).grownBy w5 v.ownBlock)
  (own : w5.ownsRow w.heap.size 185 4 v' n (tsCells ts ++ tcells t)) (hn : n = ts.length + 1) : RuleInv b s m w (w5.setCell ⟨N1, 0, none⟩ v') N0 N1 v' nv (ts ++ [t]) := by
 subst hn
 have a0 := owns_ne h.own h.r0 (by decide)
 have a1 := owns_ne h.own h.r1 (by decide)
 have l0 := lt_of_block h.r0
 have l1 := lt_of_block h.r1
 have k0 : w5.heap[N0]? = some (.cells #[.slice none 0 0, .int .i64 0] 155) := by
  rw [g.block N0 (by simp; omega) (fun e => a0 e.symm), Below.heap_alloc _ _ _ l0]; exact h.r0
 have k1 : w5.heap[N1]? = some (.cells #[v, .int .i64 nv] 155) := by
  rw [g.block N1 (by simp; omega) (fun e => a1 e.symm), Below.heap_alloc _ _ _ l1]; exact h.r1
 have m5 : Moved 147 b s m w w5 := (h.mv.alloc o).grown g (fun j hj => (h.own.lt j hj).1) h.hb
 refine ⟨m5.put1 h.n1 h.hb v', h.hb, h.n0, h.n1, h.ne, ?_, ?_, ?_⟩
 ·rw [Below.heap_setCell _ _ _ _ h.ne]; exact k0
 ·rw [heap_set_same k1]; rfl
 ·have := ownsRow_setCell_other own (a := ⟨N1, 0, none⟩) (owns_ne own k1 (by decide)) v'
  simpa [tsCells] using this
theorem RuleInv.mid {b : Nat} {s : ByteArray} {m : Nat} {w wr w5 : World} {N0 N1 : Nat} {v : Value} {nv : Int} {ts : List PTest} {o : Obj} (h : RuleInv b s m w wr N0 N1 v nv ts) (g : (wr.alloc o).grownBy w5 v.ownBlock) :
  w5.cell? ⟨N1, 0, none⟩ = some v ∧ w5.frozen? ⟨N1, 0, none⟩ = false := by
 have a1 := owns_ne h.own h.r1 (by decide)
 have l1 := lt_of_block h.r1
 have k1 : w5.heap[N1]? = some (.cells #[v, .int .i64 nv] 155) := by
  rw [g.block N1 (by simp; omega) (fun e => a1 e.symm), Below.heap_alloc _ _ _ l1]; exact h.r1
 simp [World.cell?, World.frozen?, k1]
theorem RuleInv.cells {b : Nat} {s : ByteArray} {m : Nat} {w wr : World} {N0 N1 : Nat} {v : Value} {nv : Int} {ts : List PTest} (h : RuleInv b s m w wr N0 N1 v nv ts) :
  wr.cell? ⟨N1, 0, none⟩ = some v ∧ wr.cell? ⟨N1, 1, none⟩ = some (.int .i64 nv) ∧ wr.frozen? ⟨N1, 0, none⟩ = false ∧ wr.frozen? ⟨N1, 1, none⟩ = false ∧
  wr.cell? ⟨N0, 0, none⟩ = some (.slice none 0 0) ∧ wr.cell? ⟨N0, 1, none⟩ = some (.int .i64 0) ∧ wr.frozen? ⟨N0, 0, none⟩ = false ∧ wr.frozen? ⟨N0, 1, none⟩ = false := by
 have h0 := h.r0
 have h1 := h.r1
 simp [World.cell?, World.frozen?, h0, h1]
theorem RuleInv.setNum {b : Nat} {s : ByteArray} {m : Nat} {w wr : World} {N0 N1 : Nat} {v : Value} {nv : Int} {ts : List PTest} (h : RuleInv b s m w wr N0 N1 v nv ts) (n' : Int) : RuleInv b s m w (wr.setCell ⟨N1, 1, none⟩ (.int .i64 n')) N0 N1 v n' ts :=
 ⟨h.mv.put1 h.n1 h.hb _, h.hb, h.n0, h.n1, h.ne, by rw [Below.heap_setCell _ _ _ _ h.ne]; exact h.r0, by rw [heap_set_same h.r1]; rfl, ownsRow_setCell_other h.own (a := ⟨N1, 1, none⟩) (owns_ne h.own h.r1 (by decide)) _⟩
theorem Tryz.info_test : (Tryz.prog.info? 185).map (fun i => (i.zero, i.size, i.bytes)) = some (some (.agg #[.int .i64 0, .int .i64 0, .int .i64 0, .int .i64 0]), 4, 32) := by kernel_rfl
def rv (v : Value) (num : Int) : Value := .agg #[v, .int .i64 num]
set_option maxRecDepth 100000 in
set_option maxHeartbeats 3200000 in
theorem rule_any (b : Nat) (s : ByteArray) (k : Nat) (w : World) (hr : Rd 147 b s k w) (hs : s.size ≤ 1000) (hk : k ≤ s.size) :
  Calls Tryz.prog 138 #[.pointer (some ⟨b, 0, none⟩)] w fun e w' => (∃ p, ruleR s k = .inl p ∧ e = .panicked [{ v := .iface 105 (.agg #[.int .i64 (p : Int)]), recovered := false }] ∧ ∃ m, Moved 147 b s m w w') ∨ (∃ r q, ruleR s k = .inr (r, q) ∧ ∃ v, e = .returned (rv v r.num) ∧ Moved 147 b s q w w' ∧ w'.ownsRow w.heap.size 185 4 v r.tests.length (tsCells r.tests)) := by
 have hlt := hr.lt
 obtain ⟨i0, hi, hz0, hz1, hz2⟩ := info_parts Tryz.info_test
 have HR := hide hr
 clear hr
 go_enter Tryz.func138, Tryz.ntmps138
 go_wp2_with fail
 cases hn : testR s k with
 | inl p =>
  have HF : Hid (ruleR s k = .inl p) := hide (by unfold ruleR; rw [hn])
  refine (test_no _ _ _ _ ((uh HR).alloc _) hs hk hn).mono ?_
  rintro e w3 ⟨rfl, m, hm3⟩
  have HO := hide hm3
  clear hm3 hn
  go_wp2
  exact ⟨rfl, Or.inl ⟨_, HF.out, rfl, _, (uh HO).of_alloc⟩⟩
 | inr tq =>
  obtain ⟨t, q⟩ := tq
  have HF : Hid (ruleR s k = testsR s (s.size + 1 - q) q [t]) := hide (by unfold ruleR; rw [hn])
  have hbd := testR_bd hk hn
  refine (test_yes _ _ _ _ ((uh HR).alloc _) hs hk hn).mono ?_
  rintro e w3 ⟨rfl, hm3⟩
  have HO := hide hm3
  have hsz : w.heap.size < w3.heap.size := by have := hm3.size; simp at this; omega
  clear hm3 hn
  obtain ⟨t0, t1, t2, t3⟩ := t
  simp only [tv]
  go_wp2_with fail
  have HI0 : Hid (RuleInv b s q w ((w3.alloc (.cells #[.int .i64 (t0 : Int), .int .i64 t1, .int .i64 t2, .int .i64 t3] 185)).alloc (.cells #[.slice (some ⟨w3.heap.size, 0, none⟩) 1 1, .int .i64 0] 155)) w.heap.size (w3.heap.size + 1) (.slice (some ⟨w3.heap.size, 0, none⟩) 1 1) 0 [⟨t0, t1, t2, t3⟩]) := by
   refine ⟨((uh HO).of_alloc.alloc _).alloc _, hlt, Nat.le_refl _, by omega, by omega, ?_, ?_, ?_⟩
   ·rw [Below.heap_alloc _ _ _ (by simp; omega), Below.heap_alloc _ _ _ (by omega)]
    exact (uh HO).kept hlt
   ·have := alloc_last (w3.alloc (.cells #[.int .i64 (t0 : Int), .int .i64 t1, .int .i64 t2, .int .i64 t3] 185)) (.cells #[.slice (some ⟨w3.heap.size, 0, none⟩) 1 1, .int .i64 0] 155)
    simpa using this
   ·exact (World.ownsRow_lit w3 #[.int .i64 (t0 : Int), .int .i64 t1, .int .i64 t2, .int .i64 t3] 1 (by omega) (by decide) (by simp)).alloc _
  generalize w3.heap.size + 1 = N1 at *
  generalize Value.slice (some ⟨w3.heap.size, 0, none⟩) 1 1 = v0 at *
  generalize hw4 : ((w3.alloc (.cells #[.int .i64 (t0 : Int), .int .i64 t1, .int .i64 t2, .int .i64 t3] 185)).alloc (.cells #[v0, .int .i64 0] 155)) = w4 at *
  clear hw4 HO HR
  go_loopg [] (s.size - q) (fun g wr => ∃ m ts f v, g = s.size - m ∧ s.size + 1 - m ≤ f ∧ m ≤ s.size ∧ ts.length ≤ m + 1 ∧ ruleR s k = testsR s f m ts ∧ RuleInv b s m w wr w.heap.size N1 v 0 ts)
  case atStart => exact ⟨q, _, _, _, rfl, Nat.le_refl _, hbd.2, by simp, HF.out, uh HI0⟩
  case round =>
   obtain ⟨m, ts, f, v, hg, hf, hm, hlen, hcol, hinv⟩ := hrel
   clear HI0 HF hbd
   have hpm := nextP_le hm
   have hge := nextP_ge s m
   obtain ⟨g', rfl⟩ : ∃ g', f = g' + 1 := ⟨f - 1, by omega⟩
   have A : Aside (gk = s.size - m ∧ ruleR s k = testsR s (g' + 1) m ts ∧ RuleInv b s m w wr w.heap.size N1 v 0 ts) := ⟨hg, hcol, hinv⟩
   clear hg hcol hinv
   cases h2 : inR s (nextP s m) 44 44 with
   | true =>
    have hlt2 := inR_lt (by omega) h2
    have H2 := hide h2
    clear h2
    go_wp2_with (go_at_call 133; refine (take_yes _ _ m _ _ (by exact A.out.2.2.mv.rd) hs hm (by simp) (by exact uh H2)).mono ?_; rintro e w2 ⟨rfl, hm2⟩; have HN := hide (A.out.2.2.moved hm2); clear hm2)
    obtain ⟨hg, hcol, _⟩ := A.out
    rw [testsR, if_pos (uh H2)] at hcol
    have hc2 := (uh HN).cells
    obtain ⟨c10, c11, f10, f11, c00, c01, f00, f01⟩ := hc2
    cases hn : testR s (nextP s m + 1) with
    | inl p =>
     rw [hn] at hcol
     have HF := hide hcol
     have HT := hide hn
     clear hcol hn hg
     refine wp_region_any (by kernel_rfl) ?_
     try (change wpAny _ _ _ _ _ _ _ (World.drew _))
     refine wpAny_take (i := 0) (v := ?vv0) rfl (by kernel_rfl) (by kernel_rfl) (by kernel_rfl) (fun _ _ _ h => h) (Or.inl ⟨by rfl, ?hy0⟩) ?rest0
     case hy0 => intro w; go_simp; try with_reducible rfl
     case rest0 =>
     refine wpAny_take (i := 2) (v := ?vv2) rfl (by kernel_rfl) (by kernel_rfl) (by kernel_rfl) (fun _ _ _ h => h) (Or.inl ⟨by rfl, ?hy2⟩) ?rest2
     case hy2 => intro w; go_simp; try with_reducible rfl
     case rest2 =>
     refine wpAny_ready (rs := [1, 3]) (by kernel_rfl) (by simp) ?_
     refine AllReady.cons rfl (fun K hK => ?_) ?_
     ·go_simp
      refine hK _ _ ?_
      clear hK K
      refine wpAny_ready (rs := [3]) (by kernel_rfl) (by simp) ?_
      refine AllReady.cons rfl (fun K hK => ?_) AllReady.nil
      go_simp
      refine (test_no _ _ _ _ (by exact (uh HN).mv.rd) hs (by omega) (uh HT)).mono ?_
      rintro e w6 ⟨rfl, m6, hm6⟩
      have HP := hide ((uh HN).mv.trans (Moved.of_drew hm6))
      clear hm6
      go_wp2
      exact ⟨rfl, Or.inl ⟨_, HF.out, rfl, _, uh HP⟩⟩
     ·refine AllReady.cons rfl (fun K hK => ?_) AllReady.nil
      go_simp
      refine (test_no _ _ _ _ (by exact (uh HN).mv.rd) hs (by omega) (uh HT)).mono ?_
      rintro e w6 ⟨rfl, m6, hm6⟩
      have HP := hide ((uh HN).mv.trans (Moved.of_drew hm6))
      clear hm6
      go_wp2
      exact ⟨rfl, Or.inl ⟨_, HF.out, rfl, _, uh HP⟩⟩
    | inr tq =>
     obtain ⟨t, q'⟩ := tq
     rw [hn] at hcol
     have hnb := testR_bd (by omega) hn
     have HF := hide hcol
     have HT := hide hn
     have HG := hide hg
     clear hcol hn hg
     obtain ⟨u0, u1, u2, u3⟩ := t
     go_region_law (first
      | (refine step_append_lies _ (by rfl) _ _ _ (by rfl) w.heap.size 185 i0 _ 4 32 Tryz.underlying153 hi hz0 hz1 hz2 rfl (by decide) v ts.length (tsCells ts) (by rfl) ((uh HP).own.alloc _) ⟨w6.heap.size, 0, none⟩ 1 1 [.int .i64 (u0 : Int), .int .i64 u1, .int .i64 u2, .int .i64 u3] (by rfl) (by rfl) (World.news_of_block (cs := #[.int .i64 (u0 : Int), .int .i64 u1, .int .i64 u2, .int .i64 u3]) (t := 185) (fr := (0, 0)) (heap_alloc_new w6 _)) (by simp [Value.oneCell']) (by decide) (by unfold maxLen; omega) (by omega) (by have := (uh HP).mv.size; simp; omega) (w6.heap.size + 1) (by simp) ?_; intro gg cap w7 hown7 hgrow7 hat7 hlt7; have HQ := hide ((uh HP).pushed (t := ⟨u0, u1, u2, u3⟩) hgrow7 hown7 rfl); obtain ⟨hd1, hd2⟩ := (uh HP).mid hgrow7; clear hown7 hgrow7 hat7 hlt7)
      | (go_simp; go_at_call 157; refine (test_yes _ _ _ _ (by exact (uh HN).mv.rd) hs (by omega) (uh HT)).mono ?_; rintro e w6 ⟨rfl, hm6⟩; have HP := hide ((uh HN).moved (Moved.of_drew hm6)); clear hm6; have hN1 := lt_of_block (uh HP).r1; obtain ⟨d10, d11, e10, e11, d00, d01, e00, e01⟩ := (uh HP).cells; simp only [tv]))
     all_goals
      go_wp2
      go_roundg (s.size - q')
      case measure => have := uh HG; omega
      case rel => exact ⟨q', ts ++ [⟨u0, u1, u2, u3⟩], g', _, rfl, by omega, by omega, by simp; omega, HF.out, uh HQ⟩
   | false =>
    have hid := nextP_idem hm
    have HI := hide hid
    have H2 := hide h2
    have HF0 : Hid (ruleR s k = ruleEnd s m ts) := hide (by rw [A.out.2.1, testsR, if_neg (by rw [h2]; simp)])
    clear hid h2
    go_wp2_with (go_at_call 133; refine (take_no _ _ m _ _ (by exact A.out.2.2.mv.rd) hs hm (by simp) (by exact uh H2)).mono ?_; rintro e w2 ⟨rfl, hm2⟩; have HN := hide (A.out.2.2.moved hm2); clear hm2)
    cases h3 : inR s (nextP s m) 61 61 with
    | false =>
     have HF : Hid (ruleR s k = .inl (nextP s m)) := hide (by rw [uh HF0]; unfold ruleEnd; rw [if_neg (by rw [h3]; simp)])
     refine (must_no _ _ (nextP s m) _ _ (uh HN).mv.rd hs hpm (by simp) (by rw [uh HI]; exact h3)).mono ?_
     rintro e w5 ⟨rfl, hm5⟩
     rw [uh HI] at hm5 ⊢
     have HO := hide ((uh HN).mv.trans hm5)
     clear hm5 h3
     go_wp2
     exact ⟨rfl, Or.inl ⟨_, HF.out, rfl, _, uh HO⟩⟩
    | true =>
     have hlt3 := inR_lt (by omega) h3
     refine (must_yes _ _ (nextP s m) _ _ (uh HN).mv.rd hs hpm (by simp) (by rw [uh HI]; exact h3)).mono ?_
     rintro e w5 ⟨rfl, hm5⟩
     rw [uh HI] at hm5
     have HO := hide ((uh HN).moved hm5)
     have H3 := hide h3
     clear hm5 HN h3
     go_wp2_with fail
     refine (number_any _ _ _ _ (uh HO).mv.rd hs (by omega)).mono ?_
     rintro e w6 (⟨p, hd, rfl, m6, hm6⟩ | ⟨nv, q6, hd, rfl, hm6⟩)
     ·have HF : Hid (ruleR s k = .inl p) := hide (by rw [uh HF0]; unfold ruleEnd; rw [if_pos (uh H3), hd])
      have HP := hide ((uh HO).mv.trans hm6)
      clear hd hm6
      go_wp2
      exact ⟨rfl, Or.inl ⟨_, HF.out, rfl, _, uh HP⟩⟩
     ·have hnb := numberR_bd (by omega) hd
      have HP := hide ((uh HO).moved hm6)
      have HD := hide hd
      clear hd hm6 HO
      obtain ⟨c10, c11, f10, f11, c00, c01, f00, f01⟩ := (uh HP).cells
      go_wp2_with fail
      have HQ := hide ((uh HP).setNum nv)
      cases h4 : inR s (nextP s q6) 59 59 with
      | false =>
       have HF : Hid (ruleR s k = .inl (nextP s q6)) := hide (by rw [uh HF0]; unfold ruleEnd; rw [if_pos (uh H3), uh HD]; simp only [h4]; rfl)
       refine (must_no _ _ q6 _ _ (uh HQ).mv.rd hs hnb.2.2 (by simp) h4).mono ?_
       rintro e w7 ⟨rfl, hm7⟩
       have HS := hide ((uh HQ).mv.trans hm7)
       clear hm7 h4
       go_wp2
       exact ⟨rfl, Or.inl ⟨_, HF.out, rfl, _, uh HS⟩⟩
      | true =>
       have HF : Hid (ruleR s k = .inr (⟨ts, nv⟩, nextP s q6 + 1)) := hide (by rw [uh HF0]; unfold ruleEnd; rw [if_pos (uh H3), uh HD]; simp only [h4]; rfl)
       refine (must_yes _ _ q6 _ _ (uh HQ).mv.rd hs hnb.2.2 (by simp) h4).mono ?_
       rintro e w7 ⟨rfl, hm7⟩
       have HS := hide ((uh HQ).moved hm7)
       clear hm7 h4 c10 c11 f10 f11 c00 c01 f00 f01
       obtain ⟨ao, vn, vc, rfl⟩ := owns_form (uh HS).own
       obtain ⟨c10, c11, f10, f11, c00, c01, f00, f01⟩ := (uh HS).cells
       go_wp2
       refine bodyPost_ret (v := rv (.slice ao vn vc) nv) ?_ rfl ?_
       ·simp [results, Tryz.results138, go_sem, rv, c00, c01]
       refine Or.inr ⟨⟨ts, nv⟩, _, HF.out, _, rfl, ((uh HS).mv.put1 (Nat.le_refl _) hlt _).put1 (Nat.le_refl _) hlt _, ?_⟩
       refine ownsRow_setCell_other (ownsRow_setCell_other (uh HS).own (a := ⟨w.heap.size, 0, none⟩) (owns_ne (uh HS).own (uh HS).r0 (by decide)) _) (a := ⟨w.heap.size, 1, none⟩) (owns_ne (uh HS).own (uh HS).r0 (by decide)) _
end Go.Proofs.YtdgbmcbkbkbdoaaGreatDoor
namespace Go.Proofs.YtdgbmcbkbkbdoaaGreatDoor
open Go.RowKit
structure PItem where
 name : ByteArray
 isT : Bool
 marks : Nat
 policy : Int
 cols : List ByteArray
 drops : Nat
 rules : List PRule
def endIn (s : ByteArray) (k : Nat) (it : PItem) : Res PItem :=
 if inR s (nextP s k) 59 59 then .inr (it, nextP s k + 1) else .inl (nextP s k)
def inputR (s : ByteArray) (k : Nat) : Res PItem :=
 match nameR s k with
 | .inl p => .inl p
 | .inr (x, q) =>
  if inR s (nextP s q) 47 47 then
   match marksR s (nextP s q + 1) with
   | .inl p => .inl p
   | .inr (v, r) => endIn s r ⟨x, false, v, 0, [], 0, []⟩
  else endIn s (nextP s q) ⟨x, false, 0, 0, [], 0, []⟩
def icells (it : PItem) (cv rv : Value) : Array Value := #[.string it.name, .bool it.isT, .int .i64 (it.marks : Int), .int .u8 it.policy, cv, .int .i64 (it.drops : Int), rv]
def noItem : PItem := ⟨⟨#[]⟩, false, 0, 0, [], 0, []⟩
def noSl : Value := .slice none 0 0
structure ItemInv (b : Nat) (s : ByteArray) (m : Nat) (w wr : World) (N0 N1 : Nat) (it : PItem) (cv rv : Value) : Prop where
 mv : Moved 147 b s m w wr
 hb : b < w.heap.size
 n0 : w.heap.size ≤ N0
 n1 : w.heap.size ≤ N1
 ne : N0 ≠ N1
 r0 : wr.heap[N0]? = some (.cells (icells noItem noSl noSl) 114)
 r1 : wr.heap[N1]? = some (.cells (icells it cv rv) 114)
theorem ItemInv.moved {b : Nat} {s : ByteArray} {m m' : Nat} {w wr wr' : World} {N0 N1 : Nat} {it : PItem} {cv rv : Value} (h : ItemInv b s m w wr N0 N1 it cv rv) (g : Moved 147 b s m' wr wr') : ItemInv b s m' w wr' N0 N1 it cv rv :=
 ⟨h.mv.trans g, h.hb, h.n0, h.n1, h.ne, by rw [g.block _ (lt_of_block h.r0) (by have := h.n0; have := h.hb; omega)]; exact h.r0, by rw [g.block _ (lt_of_block h.r1) (by have := h.n1; have := h.hb; omega)]; exact h.r1⟩
theorem ItemInv.set {b : Nat} {s : ByteArray} {m : Nat} {w wr : World} {N0 N1 : Nat} {it it' : PItem} {cv rv cv' rv' : Value} (h : ItemInv b s m w wr N0 N1 it cv rv) (i : Nat) (u : Value) (hi : (icells it cv rv).setIfInBounds i u = icells it' cv' rv') : ItemInv b s m w (wr.setCell ⟨N1, i, none⟩ u) N0 N1 it' cv' rv' :=
 ⟨h.mv.put1 h.n1 h.hb _, h.hb, h.n0, h.n1, h.ne, by rw [Below.heap_setCell _ _ _ _ h.ne]; exact h.r0, by rw [heap_set_same h.r1, hi]⟩
theorem cells7 {w : World} {N : Nat} {c0 c1 c2 c3 c4 c5 c6 : Value} {T : TypeId} (h : w.heap[N]? = some (.cells #[c0, c1, c2, c3, c4, c5, c6] T)) :
  (w.cell? ⟨N, 0, none⟩ = some c0 ∧ w.cell? ⟨N, 1, none⟩ = some c1 ∧ w.cell? ⟨N, 2, none⟩ = some c2 ∧ w.cell? ⟨N, 3, none⟩ = some c3 ∧ w.cell? ⟨N, 4, none⟩ = some c4 ∧ w.cell? ⟨N, 5, none⟩ = some c5 ∧ w.cell? ⟨N, 6, none⟩ = some c6) ∧
  w.frozen? ⟨N, 0, none⟩ = false ∧ w.frozen? ⟨N, 1, none⟩ = false ∧ w.frozen? ⟨N, 2, none⟩ = false ∧ w.frozen? ⟨N, 3, none⟩ = false ∧ w.frozen? ⟨N, 4, none⟩ = false ∧ w.frozen? ⟨N, 5, none⟩ = false ∧ w.frozen? ⟨N, 6, none⟩ = false := by
 simp [World.cell?, World.frozen?, h]
def iv (it : PItem) (cv rv : Value) : Value := .agg (icells it cv rv)
theorem Moved.put7 {T : TypeId} {b : Nat} {s : ByteArray} {k : Nat} {w w' : World} (h : Moved T b s k w w') {N : Nat} (hN : w.heap.size ≤ N) (hb : b < w.heap.size) (v0 v1 v2 v3 v4 v5 v6 : Value) :
  Moved T b s k w (((((((w'.setCell ⟨N, 0, none⟩ v0).setCell ⟨N, 1, none⟩ v1).setCell ⟨N, 2, none⟩ v2).setCell ⟨N, 3, none⟩ v3).setCell ⟨N, 4, none⟩ v4).setCell ⟨N, 5, none⟩ v5).setCell ⟨N, 6, none⟩ v6) :=
 (((h.put4 hN hb v0 v1 v2 v3).put1 hN hb v4).put1 hN hb v5).put1 hN hb v6
theorem marksR_bd {s : ByteArray} {k q v : Nat} (hk : k ≤ s.size) (h : marksR s k = .inr (v, q)) : (k ≤ q ∧ 1 ≤ v ∧ v ≤ 7) ∧ q ≤ s.size := by
 unfold marksR at h
 split at h
 ·cases h
 ·rename_i hne
  simp only [Sum.inr.injEq, Prod.mk.injEq] at h
  obtain ⟨rfl, rfl⟩ := h
  have h1 : k ≤ mk1 s k := by unfold mk1 adv; split <;> omega
  have h2 : mk1 s k ≤ mk2 s k := by unfold mk2 adv; split <;> omega
  have h3 : mk2 s k ≤ mk3 s k := by unfold mk3 adv; split <;> omega
  have h4 := mkSum_le s k 3
  simp only [mkSum] at h4
  exact ⟨⟨by omega, by omega, h4⟩, mk3_le hk⟩
set_option maxRecDepth 100000 in
set_option maxHeartbeats 1600000 in
theorem input_any (b : Nat) (s : ByteArray) (k : Nat) (w : World) (hr : Rd 147 b s k w) (hs : s.size ≤ 1000) (hk : k ≤ s.size) :
  Calls Tryz.prog 110 #[.pointer (some ⟨b, 0, none⟩)] w fun e w' => (∃ p, inputR s k = .inl p ∧ e = .panicked [{ v := .iface 105 (.agg #[.int .i64 (p : Int)]), recovered := false }] ∧ ∃ m, Moved 147 b s m w w') ∨ (∃ it q, inputR s k = .inr (it, q) ∧ it.isT = false ∧ it.cols = [] ∧ it.rules = [] ∧ e = .returned (iv it noSl noSl) ∧ Moved 147 b s q w w') := by
 have hlt := hr.lt
 have HR := hide hr
 clear hr
 go_enter Tryz.func110, Tryz.ntmps110
 go_wp2_with fail
 cases hn : nameR s k with
 | inl p =>
  have HF : Hid (inputR s k = .inl p) := hide (by unfold inputR; rw [hn])
  refine (name_no _ _ _ _ ((uh HR).alloc _) hs hk hn).mono ?_
  rintro e w3 ⟨rfl, m, hm3⟩
  have HO := hide hm3
  clear hm3 hn
  go_wp2
  exact ⟨rfl, Or.inl ⟨_, HF.out, rfl, _, (uh HO).of_alloc⟩⟩
 | inr xq =>
  obtain ⟨x, q⟩ := xq
  have hnb := nameR_bd hk hn
  refine (name_yes _ _ _ _ ((uh HR).alloc _) hs hk hn).mono ?_
  rintro e w3 ⟨rfl, hm3⟩
  have HO := hide hm3
  have hsz : w.heap.size < w3.heap.size := by have := hm3.size; simp at this; omega
  have HD := hide hn
  clear hm3 hn
  go_wp2_with fail
  have HV0 : Hid (ItemInv b s q w (w3.alloc (.cells #[.string x, .bool false, .int .i64 0, .int .u8 0, .slice none 0 0, .int .i64 0, .slice none 0 0] 114)) w.heap.size w3.heap.size ⟨x, false, 0, 0, [], 0, []⟩ noSl noSl) := by
   refine ⟨(uh HO).of_alloc.alloc _, hlt, Nat.le_refl _, by omega, by omega, ?_, ?_⟩
   ·rw [Below.heap_alloc _ _ _ (by omega)]
    exact (uh HO).kept hlt
   ·exact alloc_last w3 _
  generalize hw4 : (w3.alloc (.cells #[.string x, .bool false, .int .i64 0, .int .u8 0, .slice none 0 0, .int .i64 0, .slice none 0 0] 114)) = w4 at *
  generalize w3.heap.size = N1 at *
  clear hw4 HO HR
  have hp := nextP_le hnb.2.1
  cases h1 : inR s (nextP s q) 47 47 with
  | false =>
   have HG : Hid (inputR s k = endIn s (nextP s q) ⟨x, false, 0, 0, [], 0, []⟩) := hide (by unfold inputR; rw [uh HD]; simp only [h1]; rfl)
   refine (take_no _ _ q _ _ (uh HV0).mv.rd hs hnb.2.1 (by simp) h1).mono ?_
   rintro e w5 ⟨rfl, hm5⟩
   have HV := hide ((uh HV0).moved hm5)
   clear hm5 h1 HV0
   go_wp2_with fail
   cases h9 : inR s (nextP s (nextP s q)) 59 59 with
   | false =>
    have HF : Hid (inputR s k = .inl (nextP s (nextP s q))) := hide (by rw [uh HG]; unfold endIn; rw [if_neg (by rw [h9]; simp)])
    refine (must_no _ _ (nextP s q) _ _ (uh HV).mv.rd hs hp (by simp) h9).mono ?_
    rintro e w9 ⟨rfl, hm9⟩
    have HS := hide ((uh HV).mv.trans hm9)
    clear hm9 h9
    go_wp2
    exact ⟨rfl, Or.inl ⟨_, HF.out, rfl, _, uh HS⟩⟩
   | true =>
    have HF : Hid (inputR s k = .inr (⟨x, false, 0, 0, [], 0, []⟩, nextP s (nextP s q) + 1)) := hide (by rw [uh HG]; unfold endIn; rw [if_pos h9])
    refine (must_yes _ _ (nextP s q) _ _ (uh HV).mv.rd hs hp (by simp) h9).mono ?_
    rintro e w9 ⟨rfl, hm9⟩
    have HS := hide ((uh HV).moved hm9)
    clear hm9 h9
    obtain ⟨⟨c0, c1, c2, c3, c4, c5, c6⟩, f0, f1, f2, f3, f4, f5, f6⟩ := cells7 (uh HS).r1
    obtain ⟨⟨d0, d1, d2, d3, d4, d5, d6⟩, g0, g1, g2, g3, g4, g5, g6⟩ := cells7 (uh HS).r0
    simp only [noSl, noItem] at c4 c6 d0 d1 d2 d3 d4 d5 d6
    go_wp2
    refine bodyPost_ret (v := iv ⟨x, false, 0, 0, [], 0, []⟩ noSl noSl) ?_ rfl ?_
    ·simp [results, Tryz.results110, go_sem, iv, icells, noSl, d0, d1, d2, d3, d4, d5, d6]
    exact Or.inr ⟨_, _, HF.out, rfl, rfl, rfl, rfl, (uh HS).mv.put7 (Nat.le_refl _) hlt _ _ _ _ _ _ _⟩
  | true =>
   have hlt1 := inR_lt (by omega) h1
   have HG0 : Hid (inputR s k = match marksR s (nextP s q + 1) with | .inl p => .inl p | .inr (v, r) => endIn s r ⟨x, false, v, 0, [], 0, []⟩) := hide (by unfold inputR; rw [uh HD]; simp only [h1]; rfl)
   refine (take_yes _ _ q _ _ (uh HV0).mv.rd hs hnb.2.1 (by simp) h1).mono ?_
   rintro e w5 ⟨rfl, hm5⟩
   have HV1 := hide ((uh HV0).moved hm5)
   clear hm5 h1 HV0
   go_wp2_with fail
   refine (marks_any _ _ _ _ (uh HV1).mv.rd hs (by omega)).mono ?_
   rintro e w6 (⟨p, hd, rfl, m6, hm6⟩ | ⟨mv, r, hd, rfl, hm6⟩)
   ·have HF : Hid (inputR s k = .inl p) := hide (by rw [uh HG0, hd])
    have HS := hide ((uh HV1).mv.trans hm6)
    clear hd hm6
    go_wp2
    exact ⟨rfl, Or.inl ⟨_, HF.out, rfl, _, uh HS⟩⟩
   ·have HG : Hid (inputR s k = endIn s r ⟨x, false, mv, 0, [], 0, []⟩) := hide (by rw [uh HG0, hd])
    have hrb := marksR_bd (by omega) hd
    have HV2 := hide ((uh HV1).moved hm6)
    clear hd hm6 HV1 HG0
    obtain ⟨⟨c0, c1, c2, c3, c4, c5, c6⟩, f0, f1, f2, f3, f4, f5, f6⟩ := cells7 (uh HV2).r1
    go_wp2_with fail
    have HV := hide ((uh HV2).set (it' := ⟨x, false, mv, 0, [], 0, []⟩) (cv' := noSl) (rv' := noSl) 2 (.int .i64 (mv : Int)) rfl)
    clear c0 c1 c2 c3 c4 c5 c6 f0 f1 f2 f3 f4 f5 f6 HV2
    cases h9 : inR s (nextP s (r)) 59 59 with
    | false =>
     have HF : Hid (inputR s k = .inl (nextP s (r))) := hide (by rw [uh HG]; unfold endIn; rw [if_neg (by rw [h9]; simp)])
     refine (must_no _ _ (r) _ _ (uh HV).mv.rd hs hrb.2 (by simp) h9).mono ?_
     rintro e w9 ⟨rfl, hm9⟩
     have HS := hide ((uh HV).mv.trans hm9)
     clear hm9 h9
     go_wp2
     exact ⟨rfl, Or.inl ⟨_, HF.out, rfl, _, uh HS⟩⟩
    | true =>
     have HF : Hid (inputR s k = .inr (⟨x, false, mv, 0, [], 0, []⟩, nextP s (r) + 1)) := hide (by rw [uh HG]; unfold endIn; rw [if_pos h9])
     refine (must_yes _ _ (r) _ _ (uh HV).mv.rd hs hrb.2 (by simp) h9).mono ?_
     rintro e w9 ⟨rfl, hm9⟩
     have HS := hide ((uh HV).moved hm9)
     clear hm9 h9
     obtain ⟨⟨c0, c1, c2, c3, c4, c5, c6⟩, f0, f1, f2, f3, f4, f5, f6⟩ := cells7 (uh HS).r1
     obtain ⟨⟨d0, d1, d2, d3, d4, d5, d6⟩, g0, g1, g2, g3, g4, g5, g6⟩ := cells7 (uh HS).r0
     simp only [noSl, noItem] at c4 c6 d0 d1 d2 d3 d4 d5 d6
     go_wp2
     refine bodyPost_ret (v := iv ⟨x, false, mv, 0, [], 0, []⟩ noSl noSl) ?_ rfl ?_
     ·simp [results, Tryz.results110, go_sem, iv, icells, noSl, d0, d1, d2, d3, d4, d5, d6]
     exact Or.inr ⟨_, _, HF.out, rfl, rfl, rfl, rfl, (uh HS).mv.put7 (Nat.le_refl _) hlt _ _ _ _ _ _ _⟩
end Go.Proofs.YtdgbmcbkbkbdoaaGreatDoor
namespace Go.Proofs.YtdgbmcbkbkbdoaaGreatDoor
open Go.RowKit
theorem rule_yes (b : Nat) (s : ByteArray) (k : Nat) (w : World) (hr : Rd 147 b s k w) (hs : s.size ≤ 1000) (hk : k ≤ s.size) {r : PRule} {q : Nat} (h : ruleR s k = .inr (r, q)) :
  Calls Tryz.prog 138 #[.pointer (some ⟨b, 0, none⟩)] w fun e w' => ∃ ao n cap, e = .returned (rv (.slice ao n cap) r.num) ∧ Moved 147 b s q w w' ∧ w'.ownsRow w.heap.size 185 4 (.slice ao n cap) r.tests.length (tsCells r.tests) := by
 refine (rule_any b s k w hr hs hk).mono ?_
 rintro e w' (⟨p, hd, _⟩ | ⟨r', q', hd, v, he, hm, ho⟩)
 ·rw [h] at hd; cases hd
 ·rw [h] at hd
  simp only [Sum.inr.injEq, Prod.mk.injEq] at hd
  obtain ⟨rfl, rfl⟩ := hd
  obtain ⟨ao, n, cap, rfl⟩ := owns_form ho
  exact ⟨ao, n, cap, he, hm, ho⟩
theorem rule_no (b : Nat) (s : ByteArray) (k : Nat) (w : World) (hr : Rd 147 b s k w) (hs : s.size ≤ 1000) (hk : k ≤ s.size) {p : Nat} (h : ruleR s k = .inl p) :
  Calls Tryz.prog 138 #[.pointer (some ⟨b, 0, none⟩)] w fun e w' => e = .panicked [{ v := .iface 105 (.agg #[.int .i64 (p : Int)]), recovered := false }] ∧ ∃ m, Moved 147 b s m w w' := by
 refine (rule_any b s k w hr hs hk).mono ?_
 rintro e w' (⟨p', hd, he, m, hm⟩ | ⟨t', q', hd, _⟩)
 ·rw [h] at hd
  simp only [Sum.inl.injEq] at hd
  subst hd
  exact ⟨he, m, hm⟩
 ·rw [h] at hd; cases hd
theorem testsR_bd (s : ByteArray) : ∀ (f k : Nat) (ts : List PTest) (r : PRule) (q : Nat), k ≤ s.size → testsR s f k ts = .inr (r, q) → k < q ∧ q ≤ s.size
 | 0, k, ts, r, q, hk, h => by cases h
 | f + 1, k, ts, r, q, hk, h => by
  have h1 := nextP_le hk
  have h4 := nextP_ge s k
  simp only [testsR] at h
  split at h
  ·rename_i ha
   have h5 := inR_lt (by omega) ha
   split at h
   ·cases h
   ·rename_i t q' hn
    have b1 := testR_bd (by omega) hn
    have := testsR_bd s f q' (ts ++ [t]) r q b1.2 h
    omega
  ·unfold ruleEnd at h
   split at h
   ·rename_i ha
    have h5 := inR_lt (by omega) ha
    split at h
    ·cases h
    ·rename_i v q' hn
     have b1 := numberR_bd (by omega) hn
     have h6 := nextP_le b1.2.2
     have h7 := nextP_ge s q'
     split at h
     ·rename_i hb
      have h8 := inR_lt (by omega) hb
      simp only [Sum.inr.injEq, Prod.mk.injEq] at h
      omega
     ·cases h
   ·cases h
theorem ruleR_bd {s : ByteArray} {k q : Nat} {r : PRule} (hk : k ≤ s.size) (h : ruleR s k = .inr (r, q)) : k < q ∧ q ≤ s.size := by
 unfold ruleR at h
 split at h
 ·cases h
 ·rename_i t q' hn
  have b1 := testR_bd hk hn
  have := testsR_bd s _ q' [t] r q b1.2 h
  omega
def rcells (vs : List Value) (rs : List PRule) : List Value := (vs.zip rs).flatMap fun x => [x.1, .int .i64 x.2.num]
def RulesAt (base : Nat) (w : World) (v : Value) (vs : List Value) (rs : List PRule) : Prop :=
 vs.length = rs.length ∧ w.ownsRow base 155 2 v rs.length (rcells vs rs) ∧ ∀ x ∈ vs.zip rs, w.ownsRow base 185 4 x.1 x.2.tests.length (tsCells x.2.tests)
theorem owns_keep {w w' : World} {base : Nat} {e : TypeId} {size : Nat} {v : Value} {n : Nat} {xs : List Value} (h : w.ownsRow base e size v n xs) (k : ∀ g c, base ≤ g → w.heap[g]? = some (.cells c e) → w'.heap[g]? = w.heap[g]?) : w'.ownsRow base e size v n xs := by
 obtain ⟨h1, h2⟩ := h
 refine ⟨h1, ?_⟩
 rcases h2 with h2 | ⟨g, cap, cur, hv, hg, hh, r⟩
 ·exact Or.inl h2
 ·exact Or.inr ⟨g, cap, cur, hv, hg, by rw [k g cur hg hh]; exact hh, r⟩
theorem RulesAt.moved {b : Nat} {s : ByteArray} {m : Nat} {w w' : World} {base : Nat} {v : Value} {vs : List Value} {rs : List PRule} (h : RulesAt base w v vs rs) (g : Moved 147 b s m w w') (hb : b < base) : RulesAt base w' v vs rs :=
 ⟨h.1, owns_moved h.2.1 g hb, fun x hx => owns_moved (h.2.2 x hx) g hb⟩
theorem RulesAt.keep {w w' : World} {base : Nat} {v : Value} {vs : List Value} {rs : List PRule} (h : RulesAt base w v vs rs) (k1 : ∀ g c, base ≤ g → w.heap[g]? = some (.cells c 155) → w'.heap[g]? = w.heap[g]?) (k2 : ∀ g c, base ≤ g → w.heap[g]? = some (.cells c 185) → w'.heap[g]? = w.heap[g]?) : RulesAt base w' v vs rs :=
 ⟨h.1, owns_keep h.2.1 k1, fun x hx => owns_keep (h.2.2 x hx) k2⟩
theorem RulesAt.nil (base : Nat) (w : World) : RulesAt base w noSl [] [] := ⟨rfl, World.ownsRow_nil _ _ _ _, fun x hx => by simp at hx⟩
theorem rcells_push {vs : List Value} {rs : List PRule} (h : vs.length = rs.length) (v : Value) (r : PRule) : rcells (vs ++ [v]) (rs ++ [r]) = rcells vs rs ++ [v, .int .i64 r.num] := by
 unfold rcells
 rw [List.zip_append h]
 simp
theorem RulesAt.push {w w' : World} {base : Nat} {v v' u : Value} {vs : List Value} {rs : List PRule} {r : PRule} {o : Obj} {n : Nat} (h : RulesAt base w v vs rs) (hu : w.ownsRow base 185 4 u r.tests.length (tsCells r.tests)) (g : (w.alloc o).grownBy w' v.ownBlock) (hv : w'.ownsRow base 155 2 v' n (rcells vs rs ++ [u, .int .i64 r.num])) (hn : n = rs.length + 1) : RulesAt base w' v' (vs ++ [u]) (rs ++ [r]) := by
 subst hn
 have keep : ∀ gg c, base ≤ gg → w.heap[gg]? = some (.cells c 185) → w'.heap[gg]? = w.heap[gg]? := fun gg c _ hc => by
  have hne := owns_ne h.2.1 hc (by decide)
  rw [g.block gg (by have := lt_of_block hc; simp; omega) (fun e => hne e.symm), Below.heap_alloc _ _ _ (lt_of_block hc)]
 refine ⟨by simp [h.1], by rw [rcells_push h.1]; simpa using hv, ?_⟩
 intro x hx
 rw [List.zip_append h.1] at hx
 simp at hx
 rcases hx with hx | rfl
 ·exact owns_keep (h.2.2 x hx) keep
 ·exact owns_keep hu keep
structure TabInv (b : Nat) (s : ByteArray) (m : Nat) (w wr : World) (N0 N1 : Nat) (it : PItem) (cv rv : Value) (vs : List Value) : Prop where
 ii : ItemInv b s m w wr N0 N1 it cv rv
 co : wr.ownsRow w.heap.size 9 1 cv it.cols.length (it.cols.map Value.string)
 ru : RulesAt w.heap.size wr rv vs it.rules
theorem TabInv.moved {b : Nat} {s : ByteArray} {m m' : Nat} {w wr wr' : World} {N0 N1 : Nat} {it : PItem} {cv rv : Value} {vs : List Value} (h : TabInv b s m w wr N0 N1 it cv rv vs) (g : Moved 147 b s m' wr wr') : TabInv b s m' w wr' N0 N1 it cv rv vs :=
 ⟨h.ii.moved g, owns_moved h.co g h.ii.hb, h.ru.moved g h.ii.hb⟩
theorem set_keep {w : World} {N i : Nat} {c : Array Value} {T e : TypeId} {u : Value} (hN : w.heap[N]? = some (.cells c T)) (hne : e ≠ T) : ∀ (g : Nat) (c' : Array Value), (w.heap[g]? = some (.cells c' e)) → (w.setCell ⟨N, i, none⟩ u).heap[g]? = w.heap[g]? := fun g c' hg => by
 refine Below.heap_setCell _ _ _ _ (fun eq => ?_)
 simp at eq
 subst eq
 rw [hN] at hg
 simp at hg
 exact hne hg.2.symm
theorem TabInv.set {b : Nat} {s : ByteArray} {m : Nat} {w wr : World} {N0 N1 : Nat} {it it' : PItem} {cv rv : Value} {vs : List Value} (h : TabInv b s m w wr N0 N1 it cv rv vs) (i : Nat) (u : Value) (hi : (icells it cv rv).setIfInBounds i u = icells it' cv rv) (hc : it'.cols = it.cols) (hr : it'.rules = it.rules) : TabInv b s m w (wr.setCell ⟨N1, i, none⟩ u) N0 N1 it' cv rv vs :=
 ⟨h.ii.set i u hi, by rw [hc]; exact owns_keep h.co (fun g c _ hg => set_keep h.ii.r1 (by decide) g c hg), by rw [hr]; exact h.ru.keep (fun g c _ hg => set_keep h.ii.r1 (by decide) g c hg) (fun g c _ hg => set_keep h.ii.r1 (by decide) g c hg)⟩
theorem TabInv.pushed {b : Nat} {s : ByteArray} {m : Nat} {w wr w5 : World} {N0 N1 : Nat} {it : PItem} {cv rv v' u : Value} {vs : List Value} {r : PRule} {o : Obj} {n : Nat} (h : TabInv b s m w wr N0 N1 it cv rv vs) (hu : wr.ownsRow w.heap.size 185 4 u r.tests.length (tsCells r.tests)) (g : (wr.alloc o).grownBy w5 rv.ownBlock)
  (hv : w5.ownsRow w.heap.size 155 2 v' n (rcells vs it.rules ++ [u, .int .i64 r.num])) (hn : n = it.rules.length + 1) : TabInv b s m w (w5.setCell ⟨N1, 6, none⟩ v') N0 N1 { it with rules := it.rules ++ [r] } cv v' (vs ++ [u]) := by
 have ru := h.ru.push hu g hv hn
 have keep : ∀ (gg : Nat) (c : Array Value) (e : TypeId), e ≠ 155 → wr.heap[gg]? = some (.cells c e) → w5.heap[gg]? = wr.heap[gg]? := fun gg c e hne hc => by
  have hne := owns_ne h.ru.2.1 hc (fun x => hne x.symm)
  rw [g.block gg (by have := lt_of_block hc; simp; omega) (fun e => hne e.symm), Below.heap_alloc _ _ _ (lt_of_block hc)]
 have m5 : Moved 147 b s m w w5 := (h.ii.mv.alloc o).grown g (fun j hj => (h.ru.2.1.lt j hj).1) h.ii.hb
 have i5 : ItemInv b s m w w5 N0 N1 it cv rv := ⟨m5, h.ii.hb, h.ii.n0, h.ii.n1, h.ii.ne, by rw [keep _ _ _ (by decide) h.ii.r0]; exact h.ii.r0, by rw [keep _ _ _ (by decide) h.ii.r1]; exact h.ii.r1⟩
 refine ⟨i5.set 6 v' rfl, ?_, ?_⟩
 ·exact owns_keep (owns_keep h.co (fun gg c _ hg => keep gg c _ (by decide) hg)) (fun gg c _ hg => set_keep i5.r1 (by decide) gg c hg)
 ·exact ru.keep (fun gg c _ hg => set_keep i5.r1 (by decide) gg c hg) (fun gg c _ hg => set_keep i5.r1 (by decide) gg c hg)
theorem TabInv.mid {b : Nat} {s : ByteArray} {m : Nat} {w wr w5 : World} {N0 N1 : Nat} {it : PItem} {cv rv : Value} {vs : List Value} {o : Obj} (h : TabInv b s m w wr N0 N1 it cv rv vs) (g : (wr.alloc o).grownBy w5 rv.ownBlock) : w5.cell? ⟨N1, 6, none⟩ = some rv ∧ w5.frozen? ⟨N1, 6, none⟩ = false := by
 have a1 := owns_ne h.ru.2.1 h.ii.r1 (by decide)
 have l1 := lt_of_block h.ii.r1
 have k1 : w5.heap[N1]? = some (.cells (icells it cv rv) 114) := by
  rw [g.block N1 (by simp; omega) (fun e => a1 e.symm), Below.heap_alloc _ _ _ l1]; exact h.ii.r1
 simp [World.cell?, World.frozen?, k1, icells]
def rulesR (s : ByteArray) : Nat → Nat → PItem → Res PItem
 | 0, k, _ => .inl k
 | f + 1, k, it =>
  if inR s (nextP s k) 125 125 then .inr (it, nextP s k + 1)
  else match ruleR s (nextP s k) with
   | .inl p => .inl p
   | .inr (r, q) => rulesR s f q { it with rules := it.rules ++ [r] }
def bodyR (s : ByteArray) (k : Nat) (it : PItem) : Res PItem :=
 if inR s (nextP s k) 123 123 then rulesR s (s.size + 1 - (nextP s k + 1)) (nextP s k + 1) it else .inl (nextP s k)
def dropsR (s : ByteArray) (k : Nat) (it : PItem) : Res PItem :=
 if inR s (nextP s k) 92 92 then
  match marksR s (nextP s k + 1) with
  | .inl p => .inl p
  | .inr (d, q) => bodyR s q { it with drops := d }
 else bodyR s (nextP s k) it
def tableR (s : ByteArray) (k : Nat) : Res PItem :=
 match nameR s k with
 | .inl p => .inl p
 | .inr (x, q) =>
  match policyR s q with
  | .inl p => .inl p
  | .inr (c, q) =>
   match columnsR s q with
   | .inl p => .inl p
   | .inr (xs, q) => dropsR s q ⟨x, true, 0, c, xs, 0, []⟩
theorem policyR_bd {s : ByteArray} {k q : Nat} {v : Int} (_hk : k ≤ s.size) (h : policyR s k = .inr (v, q)) : (k ≤ q ∧ q ≤ s.size) ∧ 0 ≤ v ∧ v ≤ 255 := by
 unfold policyR at h
 split at h
 ·rename_i hp
  simp only [Sum.inr.injEq, Prod.mk.injEq] at h
  obtain ⟨rfl, rfl⟩ := h
  have h1 := nextP_ge s k
  have h3 : nextP s k < s.size := by
   by_cases hx : nextP s k < s.size
   ·exact hx
   ·rw [byteAt_out (by omega)] at hp; simp [isPol] at hp
  have h4 := byteAt_hi s (nextP s k)
  have h5 : 0 ≤ byteAt s (nextP s k) := by rw [byteAt_in h3]; omega
  exact ⟨⟨by omega, by omega⟩, h5, h4⟩
 ·cases h
theorem colsR_bd (s : ByteArray) : ∀ (f k : Nat) (xs ys : List ByteArray) (q : Nat), k ≤ s.size → colsR s f k xs = .inr (ys, q) → k < q ∧ q ≤ s.size
 | 0, k, xs, ys, q, hk, h => by cases h
 | f + 1, k, xs, ys, q, hk, h => by
  have h1 := nextP_le hk
  have h4 := nextP_ge s k
  simp only [colsR] at h
  split at h
  ·rename_i ha
   have h5 := inR_lt (by omega) ha
   split at h
   ·cases h
   ·rename_i x q' hn
    have b1 := nameR_bd (by omega) hn
    have := colsR_bd s f q' (xs ++ [x]) ys q b1.2.1 h
    omega
  ·split at h
   ·rename_i ha
    have h5 := inR_lt (by omega) ha
    simp only [Sum.inr.injEq, Prod.mk.injEq] at h
    omega
   ·cases h
theorem columnsR_bd {s : ByteArray} {k q : Nat} {xs : List ByteArray} (hk : k ≤ s.size) (h : columnsR s k = .inr (xs, q)) : k < q ∧ q ≤ s.size := by
 have h1 := nextP_le hk
 have h4 := nextP_ge s k
 unfold columnsR at h
 split at h
 ·rename_i ha
  have h5 := inR_lt (by omega) ha
  split at h
  ·cases h
  ·rename_i x q' hn
   have b1 := nameR_bd (by omega) hn
   have := colsR_bd s _ q' [x] xs q b1.2.1 h
   omega
 ·cases h
end Go.Proofs.YtdgbmcbkbkbdoaaGreatDoor
