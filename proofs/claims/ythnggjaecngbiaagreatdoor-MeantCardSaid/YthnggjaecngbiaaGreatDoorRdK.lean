import Derived.Test.YthnggjaecngbiaaGreatDoorRdI
namespace Go.Proofs.YthnggjaecngbiaaGreatDoor
open Go.RowKit

/-- A rule that is being read: the result's block N0, the variable's N1. -/
structure RuleInv (b : Nat) (s : ByteArray) (m : Nat) (w wr : World) (N0 N1 : Nat) (v : Value) (nv : Int) (ts : List PTest) : Prop where
  mv : Moved 152 b s m w wr
  hb : b < w.heap.size
  n0 : w.heap.size ≤ N0
  n1 : w.heap.size ≤ N1
  ne : N0 ≠ N1
  r0 : wr.heap[N0]? = some (.cells #[.slice none 0 0, .int .i64 0] 160)
  r1 : wr.heap[N1]? = some (.cells #[v, .int .i64 nv] 160)
  own : wr.ownsRow w.heap.size 193 4 v ts.length (tsCells ts)

theorem RuleInv.moved {b : Nat} {s : ByteArray} {m m' : Nat} {w wr wr' : World} {N0 N1 : Nat} {v : Value} {nv : Int} {ts : List PTest} (h : RuleInv b s m w wr N0 N1 v nv ts) (g : Moved 152 b s m' wr wr') : RuleInv b s m' w wr' N0 N1 v nv ts :=
  ⟨h.mv.trans g, h.hb, h.n0, h.n1, h.ne, by rw [g.block _ (lt_of_block h.r0) (by have := h.n0; have := h.hb; omega)]; exact h.r0, by rw [g.block _ (lt_of_block h.r1) (by have := h.n1; have := h.hb; omega)]; exact h.r1, owns_moved h.own g h.hb⟩

theorem owns_form {w : World} {base : Nat} {e : TypeId} {size : Nat} {v : Value} {n : Nat} {xs : List Value} (h : w.ownsRow base e size v n xs) : ∃ ao k cap, v = .slice ao k cap := by
  obtain ⟨_, h2⟩ := h
  rcases h2 with ⟨rfl, _⟩ | ⟨g, cap, cur, rfl, _⟩
  · exact ⟨_, _, _, rfl⟩
  · exact ⟨_, _, _, rfl⟩

theorem heap_set_same {w : World} {N i : Nat} {c : Array Value} {T : TypeId} (h : w.heap[N]? = some (.cells c T)) (u : Value) : (w.setCell ⟨N, i, none⟩ u).heap[N]? = some (.cells (c.setIfInBounds i u) T) := by
  simp [World.setCell, Array.getElem?_modify, h]

theorem RuleInv.pushed {b : Nat} {s : ByteArray} {m : Nat} {w wr w5 : World} {N0 N1 : Nat} {v v' : Value} {nv : Int} {ts : List PTest} {t : PTest} {o : Obj} {n : Nat} (h : RuleInv b s m w wr N0 N1 v nv ts) (g : (wr.alloc o).grownBy w5 v.ownBlock)
    (own : w5.ownsRow w.heap.size 193 4 v' n (tsCells ts ++ tcells t)) (hn : n = ts.length + 1) : RuleInv b s m w (w5.setCell ⟨N1, 0, none⟩ v') N0 N1 v' nv (ts ++ [t]) := by
  subst hn
  have a0 := owns_ne h.own h.r0 (by decide)
  have a1 := owns_ne h.own h.r1 (by decide)
  have l0 := lt_of_block h.r0
  have l1 := lt_of_block h.r1
  have k0 : w5.heap[N0]? = some (.cells #[.slice none 0 0, .int .i64 0] 160) := by
    rw [g.block N0 (by simp; omega) (fun e => a0 e.symm), Below.heap_alloc _ _ _ l0]; exact h.r0
  have k1 : w5.heap[N1]? = some (.cells #[v, .int .i64 nv] 160) := by
    rw [g.block N1 (by simp; omega) (fun e => a1 e.symm), Below.heap_alloc _ _ _ l1]; exact h.r1
  have m5 : Moved 152 b s m w w5 := (h.mv.alloc o).grown g (fun j hj => (h.own.lt j hj).1) h.hb
  refine ⟨m5.put1 h.n1 h.hb v', h.hb, h.n0, h.n1, h.ne, ?_, ?_, ?_⟩
  · rw [Below.heap_setCell _ _ _ _ h.ne]; exact k0
  · rw [heap_set_same k1]; rfl
  · have := ownsRow_setCell_other own (a := ⟨N1, 0, none⟩) (owns_ne own k1 (by decide)) v'
    simpa [tsCells] using this

theorem RuleInv.mid {b : Nat} {s : ByteArray} {m : Nat} {w wr w5 : World} {N0 N1 : Nat} {v : Value} {nv : Int} {ts : List PTest} {o : Obj} (h : RuleInv b s m w wr N0 N1 v nv ts) (g : (wr.alloc o).grownBy w5 v.ownBlock) :
    w5.cell? ⟨N1, 0, none⟩ = some v ∧ w5.frozen? ⟨N1, 0, none⟩ = false := by
  have a1 := owns_ne h.own h.r1 (by decide)
  have l1 := lt_of_block h.r1
  have k1 : w5.heap[N1]? = some (.cells #[v, .int .i64 nv] 160) := by
    rw [g.block N1 (by simp; omega) (fun e => a1 e.symm), Below.heap_alloc _ _ _ l1]; exact h.r1
  simp [World.cell?, World.frozen?, k1]
theorem RuleInv.cells {b : Nat} {s : ByteArray} {m : Nat} {w wr : World} {N0 N1 : Nat} {v : Value} {nv : Int} {ts : List PTest} (h : RuleInv b s m w wr N0 N1 v nv ts) :
    wr.cell? ⟨N1, 0, none⟩ = some v ∧ wr.cell? ⟨N1, 1, none⟩ = some (.int .i64 nv) ∧ wr.frozen? ⟨N1, 0, none⟩ = false ∧ wr.frozen? ⟨N1, 1, none⟩ = false ∧
    wr.cell? ⟨N0, 0, none⟩ = some (.slice none 0 0) ∧ wr.cell? ⟨N0, 1, none⟩ = some (.int .i64 0) ∧ wr.frozen? ⟨N0, 0, none⟩ = false ∧ wr.frozen? ⟨N0, 1, none⟩ = false := by
  have h0 := h.r0
  have h1 := h.r1
  simp [World.cell?, World.frozen?, h0, h1]

theorem RuleInv.setNum {b : Nat} {s : ByteArray} {m : Nat} {w wr : World} {N0 N1 : Nat} {v : Value} {nv : Int} {ts : List PTest} (h : RuleInv b s m w wr N0 N1 v nv ts) (n' : Int) : RuleInv b s m w (wr.setCell ⟨N1, 1, none⟩ (.int .i64 n')) N0 N1 v n' ts :=
  ⟨h.mv.put1 h.n1 h.hb _, h.hb, h.n0, h.n1, h.ne, by rw [Below.heap_setCell _ _ _ _ h.ne]; exact h.r0, by rw [heap_set_same h.r1]; rfl, ownsRow_setCell_other h.own (a := ⟨N1, 1, none⟩) (owns_ne h.own h.r1 (by decide)) _⟩

theorem Tryz.info_test : (Tryz.prog.info? 193).map (fun i => (i.zero, i.size, i.bytes)) = some (some (.agg #[.int .i64 0, .int .i64 0, .int .i64 0, .int .i64 0]), 4, 32) := by kernel_rfl

def rv (v : Value) (num : Int) : Value := .agg #[v, .int .i64 num]

set_option maxRecDepth 100000 in
set_option maxHeartbeats 3200000 in
theorem rule_any (b : Nat) (s : ByteArray) (k : Nat) (w : World) (hr : Rd 152 b s k w) (hs : s.size ≤ 1000) (hk : k ≤ s.size) :
    Calls Tryz.prog 154 #[.pointer (some ⟨b, 0, none⟩)] w fun e w' => (∃ p, ruleR s k = .inl p ∧ e = .panicked [{ v := .iface 110 (.agg #[.int .i64 (p : Int)]), recovered := false }] ∧ ∃ m, Moved 152 b s m w w') ∨ (∃ r q, ruleR s k = .inr (r, q) ∧ ∃ v, e = .returned (rv v r.num) ∧ Moved 152 b s q w w' ∧ w'.ownsRow w.heap.size 193 4 v r.tests.length (tsCells r.tests)) := by
  have hlt := hr.lt
  obtain ⟨i0, hi, hz0, hz1, hz2⟩ := info_parts Tryz.info_test
  have HR := hide hr
  clear hr
  go_enter Tryz.func154, Tryz.ntmps154
  go_wp2_with fail
  cases hn : testR s k with
  | inl p =>
    have HF : Hid (ruleR s k = .inl p) := hide (by unfold ruleR; rw [hn])
    refine (test_no _ _ _ _ ((unhide HR).alloc _) hs hk hn).mono ?_
    rintro e w3 ⟨rfl, m, hm3⟩
    have HO := hide hm3
    clear hm3 hn
    go_wp2
    exact ⟨rfl, Or.inl ⟨_, HF.out, rfl, _, (unhide HO).of_alloc⟩⟩
  | inr tq =>
    obtain ⟨t, q⟩ := tq
    have HF : Hid (ruleR s k = testsR s (s.size + 1 - q) q [t]) := hide (by unfold ruleR; rw [hn])
    have hbd := testR_bd hk hn
    refine (test_yes _ _ _ _ ((unhide HR).alloc _) hs hk hn).mono ?_
    rintro e w3 ⟨rfl, hm3⟩
    have HO := hide hm3
    have hsz : w.heap.size < w3.heap.size := by have := hm3.size; simp at this; omega
    clear hm3 hn
    obtain ⟨t0, t1, t2, t3⟩ := t
    simp only [tv]
    go_wp2_with fail
    have HI0 : Hid (RuleInv b s q w ((w3.alloc (.cells #[.int .i64 (t0 : Int), .int .i64 t1, .int .i64 t2, .int .i64 t3] 193)).alloc (.cells #[.slice (some ⟨w3.heap.size, 0, none⟩) 1 1, .int .i64 0] 160)) w.heap.size (w3.heap.size + 1) (.slice (some ⟨w3.heap.size, 0, none⟩) 1 1) 0 [⟨t0, t1, t2, t3⟩]) := by
      refine ⟨((unhide HO).of_alloc.alloc _).alloc _, hlt, Nat.le_refl _, by omega, by omega, ?_, ?_, ?_⟩
      · rw [Below.heap_alloc _ _ _ (by simp; omega), Below.heap_alloc _ _ _ (by omega)]
        exact (unhide HO).kept hlt
      · have := alloc_last (w3.alloc (.cells #[.int .i64 (t0 : Int), .int .i64 t1, .int .i64 t2, .int .i64 t3] 193)) (.cells #[.slice (some ⟨w3.heap.size, 0, none⟩) 1 1, .int .i64 0] 160)
        simpa using this
      · exact (World.ownsRow_lit w3 #[.int .i64 (t0 : Int), .int .i64 t1, .int .i64 t2, .int .i64 t3] 1 (by omega) (by decide) (by simp)).alloc _
    generalize w3.heap.size + 1 = N1 at *
    generalize Value.slice (some ⟨w3.heap.size, 0, none⟩) 1 1 = v0 at *
    generalize hw4 : ((w3.alloc (.cells #[.int .i64 (t0 : Int), .int .i64 t1, .int .i64 t2, .int .i64 t3] 193)).alloc (.cells #[v0, .int .i64 0] 160)) = w4 at *
    clear hw4 HO HR
    go_loopg [] (s.size - q) (fun g wr => ∃ m ts f v, g = s.size - m ∧ s.size + 1 - m ≤ f ∧ m ≤ s.size ∧ ts.length ≤ m + 1 ∧ ruleR s k = testsR s f m ts ∧ RuleInv b s m w wr w.heap.size N1 v 0 ts)
    case atStart => exact ⟨q, _, _, _, rfl, Nat.le_refl _, hbd.2, by simp, HF.out, unhide HI0⟩
    case round =>
      obtain ⟨m, ts, f, v, hg, hf, hm, hlen, hcol, hinv⟩ := hrel
      clear HI0 HF hbd
      have hpm := nextP_le hm
      have hge := nextP_ge s m
      obtain ⟨g', rfl⟩ : ∃ g', f = g' + 1 := ⟨f - 1, by omega⟩
      have A : Aside (gk = s.size - m ∧ ruleR s k = testsR s (g' + 1) m ts ∧ RuleInv b s m w wr w.heap.size N1 v 0 ts) := ⟨hg, hcol, hinv⟩
      clear hg hcol hinv
      cases h2 : inR s (nextP s m) 44 44 with
      | true =>
        have hlt2 := inR_lt (by omega) h2
        have H2 := hide h2
        clear h2
        go_wp2_with (go_at_call 149; refine (take_yes _ _ m _ _ (by exact A.out.2.2.mv.rd) hs hm (by simp) (by exact unhide H2)).mono ?_; rintro e w2 ⟨rfl, hm2⟩; have HN := hide (A.out.2.2.moved hm2); clear hm2)
        obtain ⟨hg, hcol, _⟩ := A.out
        rw [testsR, if_pos (unhide H2)] at hcol
        have hc2 := (unhide HN).cells
        obtain ⟨c10, c11, f10, f11, c00, c01, f00, f01⟩ := hc2
        cases hn : testR s (nextP s m + 1) with
        | inl p =>
          rw [hn] at hcol
          have HF := hide hcol
          have HT := hide hn
          clear hcol hn hg
          refine wp_region_any (by kernel_rfl) ?_
          try (change wpAny _ _ _ _ _ _ _ (World.drew _))
          refine wpAny_take (i := 0) (v := ?vv0) rfl (by kernel_rfl) (by kernel_rfl) (by kernel_rfl) (fun _ _ _ h => h) (Or.inl ⟨by rfl, ?hy0⟩) ?rest0
          case hy0 => intro w; go_simp; try with_reducible rfl
          case rest0 =>
          refine wpAny_take (i := 2) (v := ?vv2) rfl (by kernel_rfl) (by kernel_rfl) (by kernel_rfl) (fun _ _ _ h => h) (Or.inl ⟨by rfl, ?hy2⟩) ?rest2
          case hy2 => intro w; go_simp; try with_reducible rfl
          case rest2 =>
          refine wpAny_ready (rs := [1, 3]) (by kernel_rfl) (by simp) ?_
          refine AllReady.cons rfl (fun K hK => ?_) ?_
          · go_simp
            refine hK _ _ ?_
            clear hK K
            refine wpAny_ready (rs := [3]) (by kernel_rfl) (by simp) ?_
            refine AllReady.cons rfl (fun K hK => ?_) AllReady.nil
            go_simp
            refine (test_no _ _ _ _ (by exact (unhide HN).mv.rd) hs (by omega) (unhide HT)).mono ?_
            rintro e w6 ⟨rfl, m6, hm6⟩
            have HP := hide ((unhide HN).mv.trans (Moved.of_drew hm6))
            clear hm6
            go_wp2
            exact ⟨rfl, Or.inl ⟨_, HF.out, rfl, _, unhide HP⟩⟩
          · refine AllReady.cons rfl (fun K hK => ?_) AllReady.nil
            go_simp
            refine (test_no _ _ _ _ (by exact (unhide HN).mv.rd) hs (by omega) (unhide HT)).mono ?_
            rintro e w6 ⟨rfl, m6, hm6⟩
            have HP := hide ((unhide HN).mv.trans (Moved.of_drew hm6))
            clear hm6
            go_wp2
            exact ⟨rfl, Or.inl ⟨_, HF.out, rfl, _, unhide HP⟩⟩
        | inr tq =>
          obtain ⟨t, q'⟩ := tq
          rw [hn] at hcol
          have hnb := testR_bd (by omega) hn
          have HF := hide hcol
          have HT := hide hn
          have HG := hide hg
          clear hcol hn hg
          obtain ⟨u0, u1, u2, u3⟩ := t
          go_region_law (first
            | (refine step_append_lies _ (by rfl) _ _ _ (by rfl) w.heap.size 193 i0 _ 4 32 Tryz.underlying158 hi hz0 hz1 hz2 rfl (by decide) v ts.length (tsCells ts) (by rfl) ((unhide HP).own.alloc _) ⟨w6.heap.size, 0, none⟩ 1 1 [.int .i64 (u0 : Int), .int .i64 u1, .int .i64 u2, .int .i64 u3] (by rfl) (by rfl) (World.news_of_block (cs := #[.int .i64 (u0 : Int), .int .i64 u1, .int .i64 u2, .int .i64 u3]) (t := 193) (fr := (0, 0)) (heap_alloc_new w6 _)) (by simp [Value.oneCell']) (by decide) (by unfold maxLen; omega) (by omega) (by have := (unhide HP).mv.size; simp; omega) (w6.heap.size + 1) (by simp) ?_; intro gg cap w7 hown7 hgrow7 hat7 hlt7; have HQ := hide ((unhide HP).pushed (t := ⟨u0, u1, u2, u3⟩) hgrow7 hown7 rfl); obtain ⟨hd1, hd2⟩ := (unhide HP).mid hgrow7; clear hown7 hgrow7 hat7 hlt7)
            | (go_simp; go_at_call 176; refine (test_yes _ _ _ _ (by exact (unhide HN).mv.rd) hs (by omega) (unhide HT)).mono ?_; rintro e w6 ⟨rfl, hm6⟩; have HP := hide ((unhide HN).moved (Moved.of_drew hm6)); clear hm6; have hN1 := lt_of_block (unhide HP).r1; obtain ⟨d10, d11, e10, e11, d00, d01, e00, e01⟩ := (unhide HP).cells; simp only [tv]))
          all_goals
            go_wp2
            go_roundg (s.size - q')
            case measure => have := unhide HG; omega
            case rel => exact ⟨q', ts ++ [⟨u0, u1, u2, u3⟩], g', _, rfl, by omega, by omega, by simp; omega, HF.out, unhide HQ⟩
      | false =>
        have hid := nextP_idem hm
        have HI := hide hid
        have H2 := hide h2
        have HF0 : Hid (ruleR s k = ruleEnd s m ts) := hide (by rw [A.out.2.1, testsR, if_neg (by rw [h2]; simp)])
        clear hid h2
        go_wp2_with (go_at_call 149; refine (take_no _ _ m _ _ (by exact A.out.2.2.mv.rd) hs hm (by simp) (by exact unhide H2)).mono ?_; rintro e w2 ⟨rfl, hm2⟩; have HN := hide (A.out.2.2.moved hm2); clear hm2)
        cases h3 : inR s (nextP s m) 61 61 with
        | false =>
          have HF : Hid (ruleR s k = .inl (nextP s m)) := hide (by rw [unhide HF0]; unfold ruleEnd; rw [if_neg (by rw [h3]; simp)])
          refine (must_no _ _ (nextP s m) _ _ (unhide HN).mv.rd hs hpm (by simp) (by rw [unhide HI]; exact h3)).mono ?_
          rintro e w5 ⟨rfl, hm5⟩
          rw [unhide HI] at hm5 ⊢
          have HO := hide ((unhide HN).mv.trans hm5)
          clear hm5 h3
          go_wp2
          exact ⟨rfl, Or.inl ⟨_, HF.out, rfl, _, unhide HO⟩⟩
        | true =>
          have hlt3 := inR_lt (by omega) h3
          refine (must_yes _ _ (nextP s m) _ _ (unhide HN).mv.rd hs hpm (by simp) (by rw [unhide HI]; exact h3)).mono ?_
          rintro e w5 ⟨rfl, hm5⟩
          rw [unhide HI] at hm5
          have HO := hide ((unhide HN).moved hm5)
          have H3 := hide h3
          clear hm5 HN h3
          go_wp2_with fail
          refine (number_any _ _ _ _ (unhide HO).mv.rd hs (by omega)).mono ?_
          rintro e w6 (⟨p, hd, rfl, m6, hm6⟩ | ⟨nv, q6, hd, rfl, hm6⟩)
          · have HF : Hid (ruleR s k = .inl p) := hide (by rw [unhide HF0]; unfold ruleEnd; rw [if_pos (unhide H3), hd])
            have HP := hide ((unhide HO).mv.trans hm6)
            clear hd hm6
            go_wp2
            exact ⟨rfl, Or.inl ⟨_, HF.out, rfl, _, unhide HP⟩⟩
          · have hnb := numberR_bd (by omega) hd
            have HP := hide ((unhide HO).moved hm6)
            have HD := hide hd
            clear hd hm6 HO
            obtain ⟨c10, c11, f10, f11, c00, c01, f00, f01⟩ := (unhide HP).cells
            go_wp2_with fail
            have HQ := hide ((unhide HP).setNum nv)
            cases h4 : inR s (nextP s q6) 59 59 with
            | false =>
              have HF : Hid (ruleR s k = .inl (nextP s q6)) := hide (by rw [unhide HF0]; unfold ruleEnd; rw [if_pos (unhide H3), unhide HD]; simp only [h4]; rfl)
              refine (must_no _ _ q6 _ _ (unhide HQ).mv.rd hs hnb.2.2 (by simp) h4).mono ?_
              rintro e w7 ⟨rfl, hm7⟩
              have HS := hide ((unhide HQ).mv.trans hm7)
              clear hm7 h4
              go_wp2
              exact ⟨rfl, Or.inl ⟨_, HF.out, rfl, _, unhide HS⟩⟩
            | true =>
              have HF : Hid (ruleR s k = .inr (⟨ts, nv⟩, nextP s q6 + 1)) := hide (by rw [unhide HF0]; unfold ruleEnd; rw [if_pos (unhide H3), unhide HD]; simp only [h4]; rfl)
              refine (must_yes _ _ q6 _ _ (unhide HQ).mv.rd hs hnb.2.2 (by simp) h4).mono ?_
              rintro e w7 ⟨rfl, hm7⟩
              have HS := hide ((unhide HQ).moved hm7)
              clear hm7 h4 c10 c11 f10 f11 c00 c01 f00 f01
              obtain ⟨ao, vn, vc, rfl⟩ := owns_form (unhide HS).own
              obtain ⟨c10, c11, f10, f11, c00, c01, f00, f01⟩ := (unhide HS).cells
              go_wp2
              refine bodyPost_ret (v := rv (.slice ao vn vc) nv) ?_ rfl ?_
              · simp [results, Tryz.results154, go_sem, rv, c00, c01]
              refine Or.inr ⟨⟨ts, nv⟩, _, HF.out, _, rfl, ((unhide HS).mv.put1 (Nat.le_refl _) hlt _).put1 (Nat.le_refl _) hlt _, ?_⟩
              refine ownsRow_setCell_other (ownsRow_setCell_other (unhide HS).own (a := ⟨w.heap.size, 0, none⟩) (owns_ne (unhide HS).own (unhide HS).r0 (by decide)) _) (a := ⟨w.heap.size, 1, none⟩) (owns_ne (unhide HS).own (unhide HS).r0 (by decide)) _

end Go.Proofs.YthnggjaecngbiaaGreatDoor
