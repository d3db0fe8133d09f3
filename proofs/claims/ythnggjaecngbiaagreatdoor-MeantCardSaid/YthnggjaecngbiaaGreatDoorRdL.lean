import Derived.Test.YthnggjaecngbiaaGreatDoorRdK
namespace Go.Proofs.YthnggjaecngbiaaGreatDoor
open Go.RowKit

structure PItem where
  name : ByteArray
  isT : Bool
  marks : Nat
  policy : Int
  cols : List ByteArray
  drops : Nat
  rules : List PRule

def endIn (s : ByteArray) (k : Nat) (it : PItem) : Res PItem :=
  if inR s (nextP s k) 59 59 then .inr (it, nextP s k + 1) else .inl (nextP s k)
def inputR (s : ByteArray) (k : Nat) : Res PItem :=
  match nameR s k with
  | .inl p => .inl p
  | .inr (x, q) =>
    if inR s (nextP s q) 47 47 then
      match marksR s (nextP s q + 1) with
      | .inl p => .inl p
      | .inr (v, r) => endIn s r ⟨x, false, v, 0, [], 0, []⟩
    else endIn s (nextP s q) ⟨x, false, 0, 0, [], 0, []⟩

def icells (it : PItem) (cv rv : Value) : Array Value := #[.string it.name, .bool it.isT, .int .i64 (it.marks : Int), .int .u8 it.policy, cv, .int .i64 (it.drops : Int), rv]
def noItem : PItem := ⟨⟨#[]⟩, false, 0, 0, [], 0, []⟩
def noSl : Value := .slice none 0 0

/-- An item that is being read: the result's block N0, the variable's N1. -/
structure ItemInv (b : Nat) (s : ByteArray) (m : Nat) (w wr : World) (N0 N1 : Nat) (it : PItem) (cv rv : Value) : Prop where
  mv : Moved 152 b s m w wr
  hb : b < w.heap.size
  n0 : w.heap.size ≤ N0
  n1 : w.heap.size ≤ N1
  ne : N0 ≠ N1
  r0 : wr.heap[N0]? = some (.cells (icells noItem noSl noSl) 119)
  r1 : wr.heap[N1]? = some (.cells (icells it cv rv) 119)

theorem ItemInv.moved {b : Nat} {s : ByteArray} {m m' : Nat} {w wr wr' : World} {N0 N1 : Nat} {it : PItem} {cv rv : Value} (h : ItemInv b s m w wr N0 N1 it cv rv) (g : Moved 152 b s m' wr wr') : ItemInv b s m' w wr' N0 N1 it cv rv :=
  ⟨h.mv.trans g, h.hb, h.n0, h.n1, h.ne, by rw [g.block _ (lt_of_block h.r0) (by have := h.n0; have := h.hb; omega)]; exact h.r0, by rw [g.block _ (lt_of_block h.r1) (by have := h.n1; have := h.hb; omega)]; exact h.r1⟩
theorem ItemInv.set {b : Nat} {s : ByteArray} {m : Nat} {w wr : World} {N0 N1 : Nat} {it it' : PItem} {cv rv cv' rv' : Value} (h : ItemInv b s m w wr N0 N1 it cv rv) (i : Nat) (u : Value) (hi : (icells it cv rv).setIfInBounds i u = icells it' cv' rv') : ItemInv b s m w (wr.setCell ⟨N1, i, none⟩ u) N0 N1 it' cv' rv' :=
  ⟨h.mv.put1 h.n1 h.hb _, h.hb, h.n0, h.n1, h.ne, by rw [Below.heap_setCell _ _ _ _ h.ne]; exact h.r0, by rw [heap_set_same h.r1, hi]⟩
theorem cells7 {w : World} {N : Nat} {c0 c1 c2 c3 c4 c5 c6 : Value} {T : TypeId} (h : w.heap[N]? = some (.cells #[c0, c1, c2, c3, c4, c5, c6] T)) :
    (w.cell? ⟨N, 0, none⟩ = some c0 ∧ w.cell? ⟨N, 1, none⟩ = some c1 ∧ w.cell? ⟨N, 2, none⟩ = some c2 ∧ w.cell? ⟨N, 3, none⟩ = some c3 ∧ w.cell? ⟨N, 4, none⟩ = some c4 ∧ w.cell? ⟨N, 5, none⟩ = some c5 ∧ w.cell? ⟨N, 6, none⟩ = some c6) ∧
    w.frozen? ⟨N, 0, none⟩ = false ∧ w.frozen? ⟨N, 1, none⟩ = false ∧ w.frozen? ⟨N, 2, none⟩ = false ∧ w.frozen? ⟨N, 3, none⟩ = false ∧ w.frozen? ⟨N, 4, none⟩ = false ∧ w.frozen? ⟨N, 5, none⟩ = false ∧ w.frozen? ⟨N, 6, none⟩ = false := by
  simp [World.cell?, World.frozen?, h]

def iv (it : PItem) (cv rv : Value) : Value := .agg (icells it cv rv)

theorem Moved.put7 {T : TypeId} {b : Nat} {s : ByteArray} {k : Nat} {w w' : World} (h : Moved T b s k w w') {N : Nat} (hN : w.heap.size ≤ N) (hb : b < w.heap.size) (v0 v1 v2 v3 v4 v5 v6 : Value) :
    Moved T b s k w (((((((w'.setCell ⟨N, 0, none⟩ v0).setCell ⟨N, 1, none⟩ v1).setCell ⟨N, 2, none⟩ v2).setCell ⟨N, 3, none⟩ v3).setCell ⟨N, 4, none⟩ v4).setCell ⟨N, 5, none⟩ v5).setCell ⟨N, 6, none⟩ v6) :=
  (((h.put4 hN hb v0 v1 v2 v3).put1 hN hb v4).put1 hN hb v5).put1 hN hb v6

theorem marksR_bd {s : ByteArray} {k q v : Nat} (hk : k ≤ s.size) (h : marksR s k = .inr (v, q)) : (k ≤ q ∧ 1 ≤ v ∧ v ≤ 7) ∧ q ≤ s.size := by
  unfold marksR at h
  split at h
  · cases h
  · rename_i hne
    simp only [Sum.inr.injEq, Prod.mk.injEq] at h
    obtain ⟨rfl, rfl⟩ := h
    have h1 : k ≤ mk1 s k := by unfold mk1 adv; split <;> omega
    have h2 : mk1 s k ≤ mk2 s k := by unfold mk2 adv; split <;> omega
    have h3 : mk2 s k ≤ mk3 s k := by unfold mk3 adv; split <;> omega
    have h4 := mkSum_le s k 3
    simp only [mkSum] at h4
    exact ⟨⟨by omega, by omega, h4⟩, mk3_le hk⟩

set_option maxRecDepth 100000 in
set_option maxHeartbeats 1600000 in
theorem input_any (b : Nat) (s : ByteArray) (k : Nat) (w : World) (hr : Rd 152 b s k w) (hs : s.size ≤ 1000) (hk : k ≤ s.size) :
    Calls Tryz.prog 122 #[.pointer (some ⟨b, 0, none⟩)] w fun e w' => (∃ p, inputR s k = .inl p ∧ e = .panicked [{ v := .iface 110 (.agg #[.int .i64 (p : Int)]), recovered := false }] ∧ ∃ m, Moved 152 b s m w w') ∨ (∃ it q, inputR s k = .inr (it, q) ∧ it.isT = false ∧ it.cols = [] ∧ it.rules = [] ∧ e = .returned (iv it noSl noSl) ∧ Moved 152 b s q w w') := by
  have hlt := hr.lt
  have HR := hide hr
  clear hr
  go_enter Tryz.func122, Tryz.ntmps122
  go_wp2_with fail
  cases hn : nameR s k with
  | inl p =>
    have HF : Hid (inputR s k = .inl p) := hide (by unfold inputR; rw [hn])
    refine (name_no _ _ _ _ ((unhide HR).alloc _) hs hk hn).mono ?_
    rintro e w3 ⟨rfl, m, hm3⟩
    have HO := hide hm3
    clear hm3 hn
    go_wp2
    exact ⟨rfl, Or.inl ⟨_, HF.out, rfl, _, (unhide HO).of_alloc⟩⟩
  | inr xq =>
    obtain ⟨x, q⟩ := xq
    have hnb := nameR_bd hk hn
    refine (name_yes _ _ _ _ ((unhide HR).alloc _) hs hk hn).mono ?_
    rintro e w3 ⟨rfl, hm3⟩
    have HO := hide hm3
    have hsz : w.heap.size < w3.heap.size := by have := hm3.size; simp at this; omega
    have HD := hide hn
    clear hm3 hn
    go_wp2_with fail
    have HV0 : Hid (ItemInv b s q w (w3.alloc (.cells #[.string x, .bool false, .int .i64 0, .int .u8 0, .slice none 0 0, .int .i64 0, .slice none 0 0] 119)) w.heap.size w3.heap.size ⟨x, false, 0, 0, [], 0, []⟩ noSl noSl) := by
      refine ⟨(unhide HO).of_alloc.alloc _, hlt, Nat.le_refl _, by omega, by omega, ?_, ?_⟩
      · rw [Below.heap_alloc _ _ _ (by omega)]
        exact (unhide HO).kept hlt
      · exact alloc_last w3 _
    generalize hw4 : (w3.alloc (.cells #[.string x, .bool false, .int .i64 0, .int .u8 0, .slice none 0 0, .int .i64 0, .slice none 0 0] 119)) = w4 at *
    generalize w3.heap.size = N1 at *
    clear hw4 HO HR
    have hp := nextP_le hnb.2.1
    cases h1 : inR s (nextP s q) 47 47 with
    | false =>
      have HG : Hid (inputR s k = endIn s (nextP s q) ⟨x, false, 0, 0, [], 0, []⟩) := hide (by unfold inputR; rw [unhide HD]; simp only [h1]; rfl)
      refine (take_no _ _ q _ _ (unhide HV0).mv.rd hs hnb.2.1 (by simp) h1).mono ?_
      rintro e w5 ⟨rfl, hm5⟩
      have HV := hide ((unhide HV0).moved hm5)
      clear hm5 h1 HV0
      go_wp2_with fail
      cases h9 : inR s (nextP s (nextP s q)) 59 59 with
      | false =>
        have HF : Hid (inputR s k = .inl (nextP s (nextP s q))) := hide (by rw [unhide HG]; unfold endIn; rw [if_neg (by rw [h9]; simp)])
        refine (must_no _ _ (nextP s q) _ _ (unhide HV).mv.rd hs hp (by simp) h9).mono ?_
        rintro e w9 ⟨rfl, hm9⟩
        have HS := hide ((unhide HV).mv.trans hm9)
        clear hm9 h9
        go_wp2
        exact ⟨rfl, Or.inl ⟨_, HF.out, rfl, _, unhide HS⟩⟩
      | true =>
        have HF : Hid (inputR s k = .inr (⟨x, false, 0, 0, [], 0, []⟩, nextP s (nextP s q) + 1)) := hide (by rw [unhide HG]; unfold endIn; rw [if_pos h9])
        refine (must_yes _ _ (nextP s q) _ _ (unhide HV).mv.rd hs hp (by simp) h9).mono ?_
        rintro e w9 ⟨rfl, hm9⟩
        have HS := hide ((unhide HV).moved hm9)
        clear hm9 h9
        obtain ⟨⟨c0, c1, c2, c3, c4, c5, c6⟩, f0, f1, f2, f3, f4, f5, f6⟩ := cells7 (unhide HS).r1
        obtain ⟨⟨d0, d1, d2, d3, d4, d5, d6⟩, g0, g1, g2, g3, g4, g5, g6⟩ := cells7 (unhide HS).r0
        simp only [noSl, noItem] at c4 c6 d0 d1 d2 d3 d4 d5 d6
        go_wp2
        refine bodyPost_ret (v := iv ⟨x, false, 0, 0, [], 0, []⟩ noSl noSl) ?_ rfl ?_
        · simp [results, Tryz.results122, go_sem, iv, icells, noSl, d0, d1, d2, d3, d4, d5, d6]
        exact Or.inr ⟨_, _, HF.out, rfl, rfl, rfl, rfl, (unhide HS).mv.put7 (Nat.le_refl _) hlt _ _ _ _ _ _ _⟩
    | true =>
      have hlt1 := inR_lt (by omega) h1
      have HG0 : Hid (inputR s k = match marksR s (nextP s q + 1) with | .inl p => .inl p | .inr (v, r) => endIn s r ⟨x, false, v, 0, [], 0, []⟩) := hide (by unfold inputR; rw [unhide HD]; simp only [h1]; rfl)
      refine (take_yes _ _ q _ _ (unhide HV0).mv.rd hs hnb.2.1 (by simp) h1).mono ?_
      rintro e w5 ⟨rfl, hm5⟩
      have HV1 := hide ((unhide HV0).moved hm5)
      clear hm5 h1 HV0
      go_wp2_with fail
      refine (marks_any _ _ _ _ (unhide HV1).mv.rd hs (by omega)).mono ?_
      rintro e w6 (⟨p, hd, rfl, m6, hm6⟩ | ⟨mv, r, hd, rfl, hm6⟩)
      · have HF : Hid (inputR s k = .inl p) := hide (by rw [unhide HG0, hd])
        have HS := hide ((unhide HV1).mv.trans hm6)
        clear hd hm6
        go_wp2
        exact ⟨rfl, Or.inl ⟨_, HF.out, rfl, _, unhide HS⟩⟩
      · have HG : Hid (inputR s k = endIn s r ⟨x, false, mv, 0, [], 0, []⟩) := hide (by rw [unhide HG0, hd])
        have hrb := marksR_bd (by omega) hd
        have HV2 := hide ((unhide HV1).moved hm6)
        clear hd hm6 HV1 HG0
        obtain ⟨⟨c0, c1, c2, c3, c4, c5, c6⟩, f0, f1, f2, f3, f4, f5, f6⟩ := cells7 (unhide HV2).r1
        go_wp2_with fail
        have HV := hide ((unhide HV2).set (it' := ⟨x, false, mv, 0, [], 0, []⟩) (cv' := noSl) (rv' := noSl) 2 (.int .i64 (mv : Int)) rfl)
        clear c0 c1 c2 c3 c4 c5 c6 f0 f1 f2 f3 f4 f5 f6 HV2
        cases h9 : inR s (nextP s (r)) 59 59 with
        | false =>
          have HF : Hid (inputR s k = .inl (nextP s (r))) := hide (by rw [unhide HG]; unfold endIn; rw [if_neg (by rw [h9]; simp)])
          refine (must_no _ _ (r) _ _ (unhide HV).mv.rd hs hrb.2 (by simp) h9).mono ?_
          rintro e w9 ⟨rfl, hm9⟩
          have HS := hide ((unhide HV).mv.trans hm9)
          clear hm9 h9
          go_wp2
          exact ⟨rfl, Or.inl ⟨_, HF.out, rfl, _, unhide HS⟩⟩
        | true =>
          have HF : Hid (inputR s k = .inr (⟨x, false, mv, 0, [], 0, []⟩, nextP s (r) + 1)) := hide (by rw [unhide HG]; unfold endIn; rw [if_pos h9])
          refine (must_yes _ _ (r) _ _ (unhide HV).mv.rd hs hrb.2 (by simp) h9).mono ?_
          rintro e w9 ⟨rfl, hm9⟩
          have HS := hide ((unhide HV).moved hm9)
          clear hm9 h9
          obtain ⟨⟨c0, c1, c2, c3, c4, c5, c6⟩, f0, f1, f2, f3, f4, f5, f6⟩ := cells7 (unhide HS).r1
          obtain ⟨⟨d0, d1, d2, d3, d4, d5, d6⟩, g0, g1, g2, g3, g4, g5, g6⟩ := cells7 (unhide HS).r0
          simp only [noSl, noItem] at c4 c6 d0 d1 d2 d3 d4 d5 d6
          go_wp2
          refine bodyPost_ret (v := iv ⟨x, false, mv, 0, [], 0, []⟩ noSl noSl) ?_ rfl ?_
          · simp [results, Tryz.results122, go_sem, iv, icells, noSl, d0, d1, d2, d3, d4, d5, d6]
          exact Or.inr ⟨_, _, HF.out, rfl, rfl, rfl, rfl, (unhide HS).mv.put7 (Nat.le_refl _) hlt _ _ _ _ _ _ _⟩

end Go.Proofs.YthnggjaecngbiaaGreatDoor

namespace Go.Proofs.YthnggjaecngbiaaGreatDoor
open Go.RowKit

theorem rule_yes (b : Nat) (s : ByteArray) (k : Nat) (w : World) (hr : Rd 152 b s k w) (hs : s.size ≤ 1000) (hk : k ≤ s.size) {r : PRule} {q : Nat} (h : ruleR s k = .inr (r, q)) :
    Calls Tryz.prog 154 #[.pointer (some ⟨b, 0, none⟩)] w fun e w' => ∃ ao n cap, e = .returned (rv (.slice ao n cap) r.num) ∧ Moved 152 b s q w w' ∧ w'.ownsRow w.heap.size 193 4 (.slice ao n cap) r.tests.length (tsCells r.tests) := by
  refine (rule_any b s k w hr hs hk).mono ?_
  rintro e w' (⟨p, hd, _⟩ | ⟨r', q', hd, v, he, hm, ho⟩)
  · rw [h] at hd; cases hd
  · rw [h] at hd
    simp only [Sum.inr.injEq, Prod.mk.injEq] at hd
    obtain ⟨rfl, rfl⟩ := hd
    obtain ⟨ao, n, cap, rfl⟩ := owns_form ho
    exact ⟨ao, n, cap, he, hm, ho⟩
theorem rule_no (b : Nat) (s : ByteArray) (k : Nat) (w : World) (hr : Rd 152 b s k w) (hs : s.size ≤ 1000) (hk : k ≤ s.size) {p : Nat} (h : ruleR s k = .inl p) :
    Calls Tryz.prog 154 #[.pointer (some ⟨b, 0, none⟩)] w fun e w' => e = .panicked [{ v := .iface 110 (.agg #[.int .i64 (p : Int)]), recovered := false }] ∧ ∃ m, Moved 152 b s m w w' := by
  refine (rule_any b s k w hr hs hk).mono ?_
  rintro e w' (⟨p', hd, he, m, hm⟩ | ⟨t', q', hd, _⟩)
  · rw [h] at hd
    simp only [Sum.inl.injEq] at hd
    subst hd
    exact ⟨he, m, hm⟩
  · rw [h] at hd; cases hd

theorem testsR_bd (s : ByteArray) : ∀ (f k : Nat) (ts : List PTest) (r : PRule) (q : Nat), k ≤ s.size → testsR s f k ts = .inr (r, q) → k < q ∧ q ≤ s.size
  | 0, k, ts, r, q, hk, h => by cases h
  | f + 1, k, ts, r, q, hk, h => by
    have h1 := nextP_le hk
    have h4 := nextP_ge s k
    simp only [testsR] at h
    split at h
    · rename_i ha
      have h5 := inR_lt (by omega) ha
      split at h
      · cases h
      · rename_i t q' hn
        have b1 := testR_bd (by omega) hn
        have := testsR_bd s f q' (ts ++ [t]) r q b1.2 h
        omega
    · unfold ruleEnd at h
      split at h
      · rename_i ha
        have h5 := inR_lt (by omega) ha
        split at h
        · cases h
        · rename_i v q' hn
          have b1 := numberR_bd (by omega) hn
          have h6 := nextP_le b1.2.2
          have h7 := nextP_ge s q'
          split at h
          · rename_i hb
            have h8 := inR_lt (by omega) hb
            simp only [Sum.inr.injEq, Prod.mk.injEq] at h
            omega
          · cases h
      · cases h
theorem ruleR_bd {s : ByteArray} {k q : Nat} {r : PRule} (hk : k ≤ s.size) (h : ruleR s k = .inr (r, q)) : k < q ∧ q ≤ s.size := by
  unfold ruleR at h
  split at h
  · cases h
  · rename_i t q' hn
    have b1 := testR_bd hk hn
    have := testsR_bd s _ q' [t] r q b1.2 h
    omega

/-- The cells of a row of rules whose tests lie in vs. -/
def rcells (vs : List Value) (rs : List PRule) : List Value := (vs.zip rs).flatMap fun x => [x.1, .int .i64 x.2.num]
def RulesAt (base : Nat) (w : World) (v : Value) (vs : List Value) (rs : List PRule) : Prop :=
  vs.length = rs.length ∧ w.ownsRow base 160 2 v rs.length (rcells vs rs) ∧ ∀ x ∈ vs.zip rs, w.ownsRow base 193 4 x.1 x.2.tests.length (tsCells x.2.tests)

theorem owns_keep {w w' : World} {base : Nat} {e : TypeId} {size : Nat} {v : Value} {n : Nat} {xs : List Value} (h : w.ownsRow base e size v n xs) (k : ∀ g c, base ≤ g → w.heap[g]? = some (.cells c e) → w'.heap[g]? = w.heap[g]?) : w'.ownsRow base e size v n xs := by
  obtain ⟨h1, h2⟩ := h
  refine ⟨h1, ?_⟩
  rcases h2 with h2 | ⟨g, cap, cur, hv, hg, hh, r⟩
  · exact Or.inl h2
  · exact Or.inr ⟨g, cap, cur, hv, hg, by rw [k g cur hg hh]; exact hh, r⟩
theorem RulesAt.moved {b : Nat} {s : ByteArray} {m : Nat} {w w' : World} {base : Nat} {v : Value} {vs : List Value} {rs : List PRule} (h : RulesAt base w v vs rs) (g : Moved 152 b s m w w') (hb : b < base) : RulesAt base w' v vs rs :=
  ⟨h.1, owns_moved h.2.1 g hb, fun x hx => owns_moved (h.2.2 x hx) g hb⟩
theorem RulesAt.keep {w w' : World} {base : Nat} {v : Value} {vs : List Value} {rs : List PRule} (h : RulesAt base w v vs rs) (k1 : ∀ g c, base ≤ g → w.heap[g]? = some (.cells c 160) → w'.heap[g]? = w.heap[g]?) (k2 : ∀ g c, base ≤ g → w.heap[g]? = some (.cells c 193) → w'.heap[g]? = w.heap[g]?) : RulesAt base w' v vs rs :=
  ⟨h.1, owns_keep h.2.1 k1, fun x hx => owns_keep (h.2.2 x hx) k2⟩
theorem RulesAt.nil (base : Nat) (w : World) : RulesAt base w noSl [] [] := ⟨rfl, World.ownsRow_nil _ _ _ _, fun x hx => by simp at hx⟩
theorem rcells_push {vs : List Value} {rs : List PRule} (h : vs.length = rs.length) (v : Value) (r : PRule) : rcells (vs ++ [v]) (rs ++ [r]) = rcells vs rs ++ [v, .int .i64 r.num] := by
  unfold rcells
  rw [List.zip_append h]
  simp
theorem RulesAt.push {w w' : World} {base : Nat} {v v' u : Value} {vs : List Value} {rs : List PRule} {r : PRule} {o : Obj} {n : Nat} (h : RulesAt base w v vs rs) (hu : w.ownsRow base 193 4 u r.tests.length (tsCells r.tests)) (g : (w.alloc o).grownBy w' v.ownBlock) (hv : w'.ownsRow base 160 2 v' n (rcells vs rs ++ [u, .int .i64 r.num])) (hn : n = rs.length + 1) : RulesAt base w' v' (vs ++ [u]) (rs ++ [r]) := by
  subst hn
  have keep : ∀ gg c, base ≤ gg → w.heap[gg]? = some (.cells c 193) → w'.heap[gg]? = w.heap[gg]? := fun gg c _ hc => by
    have hne := owns_ne h.2.1 hc (by decide)
    rw [g.block gg (by have := lt_of_block hc; simp; omega) (fun e => hne e.symm), Below.heap_alloc _ _ _ (lt_of_block hc)]
  refine ⟨by simp [h.1], by rw [rcells_push h.1]; simpa using hv, ?_⟩
  intro x hx
  rw [List.zip_append h.1] at hx
  simp at hx
  rcases hx with hx | rfl
  · exact owns_keep (h.2.2 x hx) keep
  · exact owns_keep hu keep

/-- A table that is being read. -/
structure TabInv (b : Nat) (s : ByteArray) (m : Nat) (w wr : World) (N0 N1 : Nat) (it : PItem) (cv rv : Value) (vs : List Value) : Prop where
  ii : ItemInv b s m w wr N0 N1 it cv rv
  co : wr.ownsRow w.heap.size 9 1 cv it.cols.length (it.cols.map Value.string)
  ru : RulesAt w.heap.size wr rv vs it.rules

theorem TabInv.moved {b : Nat} {s : ByteArray} {m m' : Nat} {w wr wr' : World} {N0 N1 : Nat} {it : PItem} {cv rv : Value} {vs : List Value} (h : TabInv b s m w wr N0 N1 it cv rv vs) (g : Moved 152 b s m' wr wr') : TabInv b s m' w wr' N0 N1 it cv rv vs :=
  ⟨h.ii.moved g, owns_moved h.co g h.ii.hb, h.ru.moved g h.ii.hb⟩
theorem set_keep {w : World} {N i : Nat} {c : Array Value} {T e : TypeId} {u : Value} (hN : w.heap[N]? = some (.cells c T)) (hne : e ≠ T) : ∀ (g : Nat) (c' : Array Value), (w.heap[g]? = some (.cells c' e)) → (w.setCell ⟨N, i, none⟩ u).heap[g]? = w.heap[g]? := fun g c' hg => by
  refine Below.heap_setCell _ _ _ _ (fun eq => ?_)
  simp at eq
  subst eq
  rw [hN] at hg
  simp at hg
  exact hne hg.2.symm
/-- A plain field is set. -/
theorem TabInv.set {b : Nat} {s : ByteArray} {m : Nat} {w wr : World} {N0 N1 : Nat} {it it' : PItem} {cv rv : Value} {vs : List Value} (h : TabInv b s m w wr N0 N1 it cv rv vs) (i : Nat) (u : Value) (hi : (icells it cv rv).setIfInBounds i u = icells it' cv rv) (hc : it'.cols = it.cols) (hr : it'.rules = it.rules) : TabInv b s m w (wr.setCell ⟨N1, i, none⟩ u) N0 N1 it' cv rv vs :=
  ⟨h.ii.set i u hi, by rw [hc]; exact owns_keep h.co (fun g c _ hg => set_keep h.ii.r1 (by decide) g c hg), by rw [hr]; exact h.ru.keep (fun g c _ hg => set_keep h.ii.r1 (by decide) g c hg) (fun g c _ hg => set_keep h.ii.r1 (by decide) g c hg)⟩
/-- A rule is appended. -/
theorem TabInv.pushed {b : Nat} {s : ByteArray} {m : Nat} {w wr w5 : World} {N0 N1 : Nat} {it : PItem} {cv rv v' u : Value} {vs : List Value} {r : PRule} {o : Obj} {n : Nat} (h : TabInv b s m w wr N0 N1 it cv rv vs) (hu : wr.ownsRow w.heap.size 193 4 u r.tests.length (tsCells r.tests)) (g : (wr.alloc o).grownBy w5 rv.ownBlock)
    (hv : w5.ownsRow w.heap.size 160 2 v' n (rcells vs it.rules ++ [u, .int .i64 r.num])) (hn : n = it.rules.length + 1) : TabInv b s m w (w5.setCell ⟨N1, 6, none⟩ v') N0 N1 { it with rules := it.rules ++ [r] } cv v' (vs ++ [u]) := by
  have ru := h.ru.push hu g hv hn
  have keep : ∀ (gg : Nat) (c : Array Value) (e : TypeId), e ≠ 160 → wr.heap[gg]? = some (.cells c e) → w5.heap[gg]? = wr.heap[gg]? := fun gg c e hne hc => by
    have hne := owns_ne h.ru.2.1 hc (fun x => hne x.symm)
    rw [g.block gg (by have := lt_of_block hc; simp; omega) (fun e => hne e.symm), Below.heap_alloc _ _ _ (lt_of_block hc)]
  have m5 : Moved 152 b s m w w5 := (h.ii.mv.alloc o).grown g (fun j hj => (h.ru.2.1.lt j hj).1) h.ii.hb
  have i5 : ItemInv b s m w w5 N0 N1 it cv rv := ⟨m5, h.ii.hb, h.ii.n0, h.ii.n1, h.ii.ne, by rw [keep _ _ _ (by decide) h.ii.r0]; exact h.ii.r0, by rw [keep _ _ _ (by decide) h.ii.r1]; exact h.ii.r1⟩
  refine ⟨i5.set 6 v' rfl, ?_, ?_⟩
  · exact owns_keep (owns_keep h.co (fun gg c _ hg => keep gg c _ (by decide) hg)) (fun gg c _ hg => set_keep i5.r1 (by decide) gg c hg)
  · exact ru.keep (fun gg c _ hg => set_keep i5.r1 (by decide) gg c hg) (fun gg c _ hg => set_keep i5.r1 (by decide) gg c hg)
theorem TabInv.mid {b : Nat} {s : ByteArray} {m : Nat} {w wr w5 : World} {N0 N1 : Nat} {it : PItem} {cv rv : Value} {vs : List Value} {o : Obj} (h : TabInv b s m w wr N0 N1 it cv rv vs) (g : (wr.alloc o).grownBy w5 rv.ownBlock) : w5.cell? ⟨N1, 6, none⟩ = some rv ∧ w5.frozen? ⟨N1, 6, none⟩ = false := by
  have a1 := owns_ne h.ru.2.1 h.ii.r1 (by decide)
  have l1 := lt_of_block h.ii.r1
  have k1 : w5.heap[N1]? = some (.cells (icells it cv rv) 119) := by
    rw [g.block N1 (by simp; omega) (fun e => a1 e.symm), Below.heap_alloc _ _ _ l1]; exact h.ii.r1
  simp [World.cell?, World.frozen?, k1, icells]

def rulesR (s : ByteArray) : Nat → Nat → PItem → Res PItem
  | 0, k, _ => .inl k
  | f + 1, k, it =>
    if inR s (nextP s k) 125 125 then .inr (it, nextP s k + 1)
    else match ruleR s (nextP s k) with
      | .inl p => .inl p
      | .inr (r, q) => rulesR s f q { it with rules := it.rules ++ [r] }
def bodyR (s : ByteArray) (k : Nat) (it : PItem) : Res PItem :=
  if inR s (nextP s k) 123 123 then rulesR s (s.size + 1 - (nextP s k + 1)) (nextP s k + 1) it else .inl (nextP s k)
def dropsR (s : ByteArray) (k : Nat) (it : PItem) : Res PItem :=
  if inR s (nextP s k) 92 92 then
    match marksR s (nextP s k + 1) with
    | .inl p => .inl p
    | .inr (d, q) => bodyR s q { it with drops := d }
  else bodyR s (nextP s k) it
def tableR (s : ByteArray) (k : Nat) : Res PItem :=
  match nameR s k with
  | .inl p => .inl p
  | .inr (x, q) =>
    match policyR s q with
    | .inl p => .inl p
    | .inr (c, q) =>
      match columnsR s q with
      | .inl p => .inl p
      | .inr (xs, q) => dropsR s q ⟨x, true, 0, c, xs, 0, []⟩

theorem policyR_bd {s : ByteArray} {k q : Nat} {v : Int} (_hk : k ≤ s.size) (h : policyR s k = .inr (v, q)) : (k ≤ q ∧ q ≤ s.size) ∧ 0 ≤ v ∧ v ≤ 255 := by
  unfold policyR at h
  split at h
  · rename_i hp
    simp only [Sum.inr.injEq, Prod.mk.injEq] at h
    obtain ⟨rfl, rfl⟩ := h
    have h1 := nextP_ge s k
    have h3 : nextP s k < s.size := by
      by_cases hx : nextP s k < s.size
      · exact hx
      · rw [byteAt_out (by omega)] at hp; simp [isPol] at hp
    have h4 := byteAt_hi s (nextP s k)
    have h5 : 0 ≤ byteAt s (nextP s k) := by rw [byteAt_in h3]; omega
    exact ⟨⟨by omega, by omega⟩, h5, h4⟩
  · cases h
theorem colsR_bd (s : ByteArray) : ∀ (f k : Nat) (xs ys : List ByteArray) (q : Nat), k ≤ s.size → colsR s f k xs = .inr (ys, q) → k < q ∧ q ≤ s.size
  | 0, k, xs, ys, q, hk, h => by cases h
  | f + 1, k, xs, ys, q, hk, h => by
    have h1 := nextP_le hk
    have h4 := nextP_ge s k
    simp only [colsR] at h
    split at h
    · rename_i ha
      have h5 := inR_lt (by omega) ha
      split at h
      · cases h
      · rename_i x q' hn
        have b1 := nameR_bd (by omega) hn
        have := colsR_bd s f q' (xs ++ [x]) ys q b1.2.1 h
        omega
    · split at h
      · rename_i ha
        have h5 := inR_lt (by omega) ha
        simp only [Sum.inr.injEq, Prod.mk.injEq] at h
        omega
      · cases h
theorem columnsR_bd {s : ByteArray} {k q : Nat} {xs : List ByteArray} (hk : k ≤ s.size) (h : columnsR s k = .inr (xs, q)) : k < q ∧ q ≤ s.size := by
  have h1 := nextP_le hk
  have h4 := nextP_ge s k
  unfold columnsR at h
  split at h
  · rename_i ha
    have h5 := inR_lt (by omega) ha
    split at h
    · cases h
    · rename_i x q' hn
      have b1 := nameR_bd (by omega) hn
      have := colsR_bd s _ q' [x] xs q b1.2.1 h
      omega
  · cases h

end Go.Proofs.YthnggjaecngbiaaGreatDoor

