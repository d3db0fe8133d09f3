import Derived.Test.YthnggjaecngbiaaDoorRdK
namespace Go.Proofs.YthnggjaecngbiaaDoor
open Go.RowKit

structure PItem where
  name : ByteArray
  isT : Bool
  marks : Nat
  policy : Int
  cols : List ByteArray
  drops : Nat
  rules : List PRule

def endIn (s : ByteArray) (k : Nat) (it : PItem) : Res PItem :=
  if inR s (nextP s k) 59 59 then .inr (it, nextP s k + 1) else .inl (nextP s k)
def inputR (s : ByteArray) (k : Nat) : Res PItem :=
  match nameR s k with
  | .inl p => .inl p
  | .inr (x, q) =>
    if inR s (nextP s q) 47 47 then
      match marksR s (nextP s q + 1) with
      | .inl p => .inl p
      | .inr (v, r) => endIn s r ⟨x, false, v, 0, [], 0, []⟩
    else endIn s (nextP s q) ⟨x, false, 0, 0, [], 0, []⟩

def icells (it : PItem) (cv rv : Value) : Array Value := #[.string it.name, .bool it.isT, .int .i64 (it.marks : Int), .int .u8 it.policy, cv, .int .i64 (it.drops : Int), rv]
def noItem : PItem := ⟨⟨#[]⟩, false, 0, 0, [], 0, []⟩
def noSl : Value := .slice none 0 0

/-- An item that is being read: the result's block N0, the variable's N1. -/
structure ItemInv (b : Nat) (s : ByteArray) (m : Nat) (w wr : World) (N0 N1 : Nat) (it : PItem) (cv rv : Value) : Prop where
  mv : Moved 54 b s m w wr
  hb : b < w.heap.size
  n0 : w.heap.size ≤ N0
  n1 : w.heap.size ≤ N1
  ne : N0 ≠ N1
  r0 : wr.heap[N0]? = some (.cells (icells noItem noSl noSl) 47)
  r1 : wr.heap[N1]? = some (.cells (icells it cv rv) 47)

theorem ItemInv.moved {b : Nat} {s : ByteArray} {m m' : Nat} {w wr wr' : World} {N0 N1 : Nat} {it : PItem} {cv rv : Value} (h : ItemInv b s m w wr N0 N1 it cv rv) (g : Moved 54 b s m' wr wr') : ItemInv b s m' w wr' N0 N1 it cv rv :=
  ⟨h.mv.trans g, h.hb, h.n0, h.n1, h.ne, by rw [g.block _ (lt_of_block h.r0) (by have := h.n0; have := h.hb; omega)]; exact h.r0, by rw [g.block _ (lt_of_block h.r1) (by have := h.n1; have := h.hb; omega)]; exact h.r1⟩
theorem ItemInv.set {b : Nat} {s : ByteArray} {m : Nat} {w wr : World} {N0 N1 : Nat} {it it' : PItem} {cv rv cv' rv' : Value} (h : ItemInv b s m w wr N0 N1 it cv rv) (i : Nat) (u : Value) (hi : (icells it cv rv).setIfInBounds i u = icells it' cv' rv') : ItemInv b s m w (wr.setCell ⟨N1, i, none⟩ u) N0 N1 it' cv' rv' :=
  ⟨h.mv.put1 h.n1 h.hb _, h.hb, h.n0, h.n1, h.ne, by rw [Below.heap_setCell _ _ _ _ h.ne]; exact h.r0, by rw [heap_set_same h.r1, hi]⟩
theorem cells7 {w : World} {N : Nat} {c0 c1 c2 c3 c4 c5 c6 : Value} {T : TypeId} (h : w.heap[N]? = some (.cells #[c0, c1, c2, c3, c4, c5, c6] T)) :
    (w.cell? ⟨N, 0, none⟩ = some c0 ∧ w.cell? ⟨N, 1, none⟩ = some c1 ∧ w.cell? ⟨N, 2, none⟩ = some c2 ∧ w.cell? ⟨N, 3, none⟩ = some c3 ∧ w.cell? ⟨N, 4, none⟩ = some c4 ∧ w.cell? ⟨N, 5, none⟩ = some c5 ∧ w.cell? ⟨N, 6, none⟩ = some c6) ∧
    w.frozen? ⟨N, 0, none⟩ = false ∧ w.frozen? ⟨N, 1, none⟩ = false ∧ w.frozen? ⟨N, 2, none⟩ = false ∧ w.frozen? ⟨N, 3, none⟩ = false ∧ w.frozen? ⟨N, 4, none⟩ = false ∧ w.frozen? ⟨N, 5, none⟩ = false ∧ w.frozen? ⟨N, 6, none⟩ = false := by
  simp [World.cell?, World.frozen?, h]

def iv (it : PItem) (cv rv : Value) : Value := .agg (icells it cv rv)

theorem Moved.put7 {T : TypeId} {b : Nat} {s : ByteArray} {k : Nat} {w w' : World} (h : Moved T b s k w w') {N : Nat} (hN : w.heap.size ≤ N) (hb : b < w.heap.size) (v0 v1 v2 v3 v4 v5 v6 : Value) :
    Moved T b s k w (((((((w'.setCell ⟨N, 0, none⟩ v0).setCell ⟨N, 1, none⟩ v1).setCell ⟨N, 2, none⟩ v2).setCell ⟨N, 3, none⟩ v3).setCell ⟨N, 4, none⟩ v4).setCell ⟨N, 5, none⟩ v5).setCell ⟨N, 6, none⟩ v6) :=
  (((h.put4 hN hb v0 v1 v2 v3).put1 hN hb v4).put1 hN hb v5).put1 hN hb v6

theorem marksR_bd {s : ByteArray} {k q v : Nat} (hk : k ≤ s.size) (h : marksR s k = .inr (v, q)) : (k ≤ q ∧ 1 ≤ v ∧ v ≤ 7) ∧ q ≤ s.size := by
  unfold marksR at h
  split at h
  · cases h
  · rename_i hne
    simp only [Sum.inr.injEq, Prod.mk.injEq] at h
    obtain ⟨rfl, rfl⟩ := h
    have h1 : k ≤ mk1 s k := by unfold mk1 adv; split <;> omega
    have h2 : mk1 s k ≤ mk2 s k := by unfold mk2 adv; split <;> omega
    have h3 : mk2 s k ≤ mk3 s k := by unfold mk3 adv; split <;> omega
    have h4 := mkSum_le s k 3
    simp only [mkSum] at h4
    exact ⟨⟨by omega, by omega, h4⟩, mk3_le hk⟩

set_option maxRecDepth 100000 in
set_option maxHeartbeats 1600000 in
theorem input_any (b : Nat) (s : ByteArray) (k : Nat) (w : World) (hr : Rd 54 b s k w) (hs : s.size ≤ 1000) (hk : k ≤ s.size) :
    Calls Tryd.prog 29 #[.pointer (some ⟨b, 0, none⟩)] w fun e w' => (∃ p, inputR s k = .inl p ∧ e = .panicked [{ v := .iface 36 (.agg #[.int .i64 (p : Int)]), recovered := false }] ∧ ∃ m, Moved 54 b s m w w') ∨ (∃ it q, inputR s k = .inr (it, q) ∧ it.isT = false ∧ it.cols = [] ∧ it.rules = [] ∧ e = .returned (iv it noSl noSl) ∧ Moved 54 b s q w w') := by
  have hlt := hr.lt
  have HR := hide hr
  clear hr
  go_enter Tryd.func29, Tryd.ntmps29
  go_wp2_with fail
  cases hn : nameR s k with
  | inl p =>
    have HF : Hid (inputR s k = .inl p) := hide (by unfold inputR; rw [hn])
    refine (name_no _ _ _ _ ((unhide HR).alloc _) hs hk hn).mono ?_
    rintro e w3 ⟨rfl, m, hm3⟩
    have HO := hide hm3
    clear hm3 hn
    go_wp2
    exact ⟨rfl, Or.inl ⟨_, HF.out, rfl, _, (unhide HO).of_alloc⟩⟩
  | inr xq =>
    obtain ⟨x, q⟩ := xq
    have hnb := nameR_bd hk hn
    refine (name_yes _ _ _ _ ((unhide HR).alloc _) hs hk hn).mono ?_
    rintro e w3 ⟨rfl, hm3⟩
    have HO := hide hm3
    have hsz : w.heap.size < w3.heap.size := by have := hm3.size; simp at this; omega
    have HD := hide hn
    clear hm3 hn
    go_wp2_with fail
    have HV0 : Hid (ItemInv b s q w (w3.alloc (.cells #[.string x, .bool false, .int .i64 0, .int .u8 0, .slice none 0 0, .int .i64 0, .slice none 0 0] 47)) w.heap.size w3.heap.size ⟨x, false, 0, 0, [], 0, []⟩ noSl noSl) := by
      refine ⟨(unhide HO).of_alloc.alloc _, hlt, Nat.le_refl _, by omega, by omega, ?_, ?_⟩
      · rw [Below.heap_alloc _ _ _ (by omega)]
        exact (unhide HO).kept hlt
      · exact alloc_last w3 _
    generalize hw4 : (w3.alloc (.cells #[.string x, .bool false, .int .i64 0, .int .u8 0, .slice none 0 0, .int .i64 0, .slice none 0 0] 47)) = w4 at *
    generalize w3.heap.size = N1 at *
    clear hw4 HO HR
    have hp := nextP_le hnb.2.1
    cases h1 : inR s (nextP s q) 47 47 with
    | false =>
      have HG : Hid (inputR s k = endIn s (nextP s q) ⟨x, false, 0, 0, [], 0, []⟩) := hide (by unfold inputR; rw [unhide HD]; simp only [h1]; rfl)
      refine (take_no _ _ q _ _ (unhide HV0).mv.rd hs hnb.2.1 (by simp) h1).mono ?_
      rintro e w5 ⟨rfl, hm5⟩
      have HV := hide ((unhide HV0).moved hm5)
      clear hm5 h1 HV0
      go_wp2_with fail
      cases h9 : inR s (nextP s (nextP s q)) 59 59 with
      | false =>
        have HF : Hid (inputR s k = .inl (nextP s (nextP s q))) := hide (by rw [unhide HG]; unfold endIn; rw [if_neg (by rw [h9]; simp)])
        refine (must_no _ _ (nextP s q) _ _ (unhide HV).mv.rd hs hp (by simp) h9).mono ?_
        rintro e w9 ⟨rfl, hm9⟩
        have HS := hide ((unhide HV).mv.trans hm9)
        clear hm9 h9
        go_wp2
        exact ⟨rfl, Or.inl ⟨_, HF.out, rfl, _, unhide HS⟩⟩
      | true =>
        have HF : Hid (inputR s k = .inr (⟨x, false, 0, 0, [], 0, []⟩, nextP s (nextP s q) + 1)) := hide (by rw [unhide HG]; unfold endIn; rw [if_pos h9])
        refine (must_yes _ _ (nextP s q) _ _ (unhide HV).mv.rd hs hp (by simp) h9).mono ?_
        rintro e w9 ⟨rfl, hm9⟩
        have HS := hide ((unhide HV).moved hm9)
        clear hm9 h9
        obtain ⟨⟨c0, c1, c2, c3, c4, c5, c6⟩, f0, f1, f2, f3, f4, f5, f6⟩ := cells7 (unhide HS).r1
        obtain ⟨⟨d0, d1, d2, d3, d4, d5, d6⟩, g0, g1, g2, g3, g4, g5, g6⟩ := cells7 (unhide HS).r0
        simp only [noSl, noItem] at c4 c6 d0 d1 d2 d3 d4 d5 d6
        go_wp2
        refine bodyPost_ret (v := iv ⟨x, false, 0, 0, [], 0, []⟩ noSl noSl) ?_ rfl ?_
        · simp [results, Tryd.results29, go_sem, iv, icells, noSl, d0, d1, d2, d3, d4, d5, d6]
        exact Or.inr ⟨_, _, HF.out, rfl, rfl, rfl, rfl, (unhide HS).mv.put7 (Nat.le_refl _) hlt _ _ _ _ _ _ _⟩
    | true =>
      have hlt1 := inR_lt (by omega) h1
      have HG0 : Hid (inputR s k = match marksR s (nextP s q + 1) with | .inl p => .inl p | .inr (v, r) => endIn s r ⟨x, false, v, 0, [], 0, []⟩) := hide (by unfold inputR; rw [unhide HD]; simp only [h1]; rfl)
      refine (take_yes _ _ q _ _ (unhide HV0).mv.rd hs hnb.2.1 (by simp) h1).mono ?_
      rintro e w5 ⟨rfl, hm5⟩
      have HV1 := hide ((unhide HV0).moved hm5)
      clear hm5 h1 HV0
      go_wp2_with fail
      refine (marks_any _ _ _ _ (unhide HV1).mv.rd hs (by omega)).mono ?_
      rintro e w6 (⟨p, hd, rfl, m6, hm6⟩ | ⟨mv, r, hd, rfl, hm6⟩)
      · have HF : Hid (inputR s k = .inl p) := hide (by rw [unhide HG0, hd])
        have HS := hide ((unhide HV1).mv.trans hm6)
        clear hd hm6
        go_wp2
        exact ⟨rfl, Or.inl ⟨_, HF.out, rfl, _, unhide HS⟩⟩
      · have HG : Hid (inputR s k = endIn s r ⟨x, false, mv, 0, [], 0, []⟩) := hide (by rw [unhide HG0, hd])
        have hrb := marksR_bd (by omega) hd
        have HV2 := hide ((unhide HV1).moved hm6)
        clear hd hm6 HV1 HG0
        obtain ⟨⟨c0, c1, c2, c3, c4, c5, c6⟩, f0, f1, f2, f3, f4, f5, f6⟩ := cells7 (unhide HV2).r1
        go_wp2_with fail
        have HV := hide ((unhide HV2).set (it' := ⟨x, false, mv, 0, [], 0, []⟩) (cv' := noSl) (rv' := noSl) 2 (.int .i64 (mv : Int)) rfl)
        clear c0 c1 c2 c3 c4 c5 c6 f0 f1 f2 f3 f4 f5 f6 HV2
        cases h9 : inR s (nextP s (r)) 59 59 with
        | false =>
          have HF : Hid (inputR s k = .inl (nextP s (r))) := hide (by rw [unhide HG]; unfold endIn; rw [if_neg (by rw [h9]; simp)])
          refine (must_no _ _ (r) _ _ (unhide HV).mv.rd hs hrb.2 (by simp) h9).mono ?_
          rintro e w9 ⟨rfl, hm9⟩
          have HS := hide ((unhide HV).mv.trans hm9)
          clear hm9 h9
          go_wp2
          exact ⟨rfl, Or.inl ⟨_, HF.out, rfl, _, unhide HS⟩⟩
        | true =>
          have HF : Hid (inputR s k = .inr (⟨x, false, mv, 0, [], 0, []⟩, nextP s (r) + 1)) := hide (by rw [unhide HG]; unfold endIn; rw [if_pos h9])
          refine (must_yes _ _ (r) _ _ (unhide HV).mv.rd hs hrb.2 (by simp) h9).mono ?_
          rintro e w9 ⟨rfl, hm9⟩
          have HS := hide ((unhide HV).moved hm9)
          clear hm9 h9
          obtain ⟨⟨c0, c1, c2, c3, c4, c5, c6⟩, f0, f1, f2, f3, f4, f5, f6⟩ := cells7 (unhide HS).r1
          obtain ⟨⟨d0, d1, d2, d3, d4, d5, d6⟩, g0, g1, g2, g3, g4, g5, g6⟩ := cells7 (unhide HS).r0
          simp only [noSl, noItem] at c4 c6 d0 d1 d2 d3 d4 d5 d6
          go_wp2
          refine bodyPost_ret (v := iv ⟨x, false, mv, 0, [], 0, []⟩ noSl noSl) ?_ rfl ?_
          · simp [results, Tryd.results29, go_sem, iv, icells, noSl, d0, d1, d2, d3, d4, d5, d6]
          exact Or.inr ⟨_, _, HF.out, rfl, rfl, rfl, rfl, (unhide HS).mv.put7 (Nat.le_refl _) hlt _ _ _ _ _ _ _⟩

end Go.Proofs.YthnggjaecngbiaaDoor
