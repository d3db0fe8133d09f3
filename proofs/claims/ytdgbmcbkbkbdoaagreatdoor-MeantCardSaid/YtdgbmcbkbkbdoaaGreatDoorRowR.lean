import Derived.Test.YtdgbmcbkbkbdoaaGreatDoorRowK
import Derived.Test.YtdgbmcbkbkbdoaaGreatDoorMeA
namespace Go.Proofs.YtdgbmcbkbkbdoaaGreatDoor
open Go.ChangeShapes Go.WideShapes Go.ChangeAt Go.RowKit

theorem rk_cellsRule : Tryz.prog.cellsOf 62 = 5 := by kernel_rfl
set_option maxRecDepth 100000 in
theorem open_rule {H : Type} {enc : TypeId × Value → H} {W : World} {base : Nat} {sp : Nat → Bool} {held : Bool} {n : Nat} {cs : List Value} {x : DataW H × List MemPlace} (h : DataW.trod enc Tryz.prog W base sp held n 62 cs = some x) :
    ∃ o : RawR, cs = [.int .i64 o.x, .int .i64 o.y, .int .i64 o.u, .int .i64 o.v, .int .i64 o.n] ∧ o.ok := by
  obtain ⟨xs, k, hk, hxy, hl, hxl, hf⟩ := DataW.trod_struct Tryz.underlying62 h
  rw [rk_cellsRule] at hl
  match xs, hxl, cs, hl with
  | [y0, y1, y2, y3, y4], _, [v0, v1, v2, v3, v4], _ =>
    have g0 : DataW.trod enc Tryz.prog W base sp held k 3 [v0] = some y0 := by
      have h : DataW.trod enc Tryz.prog W base sp held k 3 (List.take (Tryz.prog.cellsOf 3) (List.drop 0 [v0, v1, v2, v3, v4])) = some y0 := hf 0 _ rfl
      rw [rk_cellsInt] at h
      exact h
    obtain ⟨n0, e0, _, f0⟩ := DataW.trod_int Tryz.underlying3 g0
    have e0 := List.head_eq_of_cons_eq e0
    have g1 : DataW.trod enc Tryz.prog W base sp held k 3 [v1] = some y1 := by
      have h : DataW.trod enc Tryz.prog W base sp held k 3 (List.take (Tryz.prog.cellsOf 3) (List.drop 1 [v0, v1, v2, v3, v4])) = some y1 := hf 1 _ rfl
      rw [rk_cellsInt] at h
      exact h
    obtain ⟨n1, e1, _, f1⟩ := DataW.trod_int Tryz.underlying3 g1
    have e1 := List.head_eq_of_cons_eq e1
    have g2 : DataW.trod enc Tryz.prog W base sp held k 3 [v2] = some y2 := by
      have h : DataW.trod enc Tryz.prog W base sp held k 3 (List.take (Tryz.prog.cellsOf 3) (List.drop 2 [v0, v1, v2, v3, v4])) = some y2 := hf 2 _ rfl
      rw [rk_cellsInt] at h
      exact h
    obtain ⟨n2, e2, _, f2⟩ := DataW.trod_int Tryz.underlying3 g2
    have e2 := List.head_eq_of_cons_eq e2
    have g3 : DataW.trod enc Tryz.prog W base sp held k 3 [v3] = some y3 := by
      have h : DataW.trod enc Tryz.prog W base sp held k 3 (List.take (Tryz.prog.cellsOf 3) (List.drop 3 [v0, v1, v2, v3, v4])) = some y3 := hf 3 _ rfl
      rw [rk_cellsInt] at h
      exact h
    obtain ⟨n3, e3, _, f3⟩ := DataW.trod_int Tryz.underlying3 g3
    have e3 := List.head_eq_of_cons_eq e3
    have g4 : DataW.trod enc Tryz.prog W base sp held k 3 [v4] = some y4 := by
      have h : DataW.trod enc Tryz.prog W base sp held k 3 (List.take (Tryz.prog.cellsOf 3) (List.drop 4 [v0, v1, v2, v3, v4])) = some y4 := hf 4 _ rfl
      rw [rk_cellsInt] at h
      exact h
    obtain ⟨n4, e4, _, f4⟩ := DataW.trod_int Tryz.underlying3 g4
    have e4 := List.head_eq_of_cons_eq e4
    subst e0 e1 e2 e3 e4
    exact ⟨⟨n0, n1, n2, n3, n4⟩, rfl, int_wf f0, int_wf f1, int_wf f2, int_wf f3, int_wf f4⟩

set_option maxRecDepth 100000 in
theorem open_rules {H : Type} {enc : TypeId × Value → H} {W : World} {base b0 : Nat} {r : Reach} {sp : Nat → Bool} {held : Bool} {v : Value} {d : DataW H} {ps : List MemPlace} (hval : Value.okWide Tryz.prog W r b0 58 v) (hd : DataW.Trod enc Tryz.prog W base sp held 58 v d ps) :
    ∃ ops, RawRs W v ops ∧ ∀ o ∈ ops, o.ok := by
  obtain ⟨a, len, cap, rfl⟩ := okWide_slice Tryz.underlying58 hval
  obtain ⟨fuel, hf⟩ := hd
  have hc : (Value.slice a len cap).cells.toList = [.slice a len cap] := by simp [Value.cells]
  rw [hc] at hf
  rcases Deep.open_slice Tryz.underlying58 hf with ⟨h0, _⟩ | ⟨a', len', cap', m, n, D, Pl, hcs, hb, hl, hm, hmm, hx, hall⟩
  · simp only [List.cons.injEq, Value.slice.injEq, and_true] at h0
    obtain ⟨rfl, rfl, rfl⟩ := h0
    exact ⟨[], Or.inl ⟨rfl, _, _, rfl⟩, by simp⟩
  · simp only [List.cons.injEq, Value.slice.injEq, and_true] at hcs
    obtain ⟨rfl, rfl, rfl⟩ := hcs
    have hlm : len ≤ m := by rw [hmm]; split <;> omega
    have each : ∀ i, i < len → ∃ o : RawR, (∀ k, k < 5 → W.cell? (a'.add (i * 5 + k)) = ([.int .i64 o.x, .int .i64 o.y, .int .i64 o.u, .int .i64 o.v, .int .i64 o.n] : List Value)[k]?) ∧ o.ok := by
      intro i hi
      obtain ⟨cs', h1, h2⟩ := hall i (by omega)
      rw [rk_cellsRule] at h1
      obtain ⟨_, _, hcell⟩ := World.cells?_some h1
      obtain ⟨o, rfl, hs⟩ := open_rule h2
      exact ⟨o, fun k hk => by rw [← Deep.add_add]; exact hcell k hk, hs⟩
    haveI : Inhabited RawR := ⟨⟨0, 0, 0, 0, 0⟩⟩
    obtain ⟨q, hq⟩ := Deep.choose_lt each
    have hlen : ((List.range len).map q).length = len := by simp
    by_cases hz : len = 0
    · subst hz
      exact ⟨[], Or.inl ⟨rfl, _, _, rfl⟩, by simp⟩
    · have h00 := (hq 0 (by omega)).1 0 (by omega)
      obtain ⟨g, off, spot⟩ := a'
      have hspot : spot = none := by simpa [Addr.add] using World.cell?_spot h00
      subst hspot
      have hg : g < W.heap.size := by
        rcases Nat.lt_or_ge g W.heap.size with h | h
        · exact h
        · simp [World.cell?, Addr.add, Array.getElem?_eq_none h] at h00
      refine ⟨(List.range len).map q, Or.inr ⟨g, off, cap, by rw [hlen], by rw [hlen]; exact hl, hm, hg, ?_⟩, ?_⟩
      · intro j o hj
        have hjl : j < len := by have := (List.getElem?_eq_some_iff.1 hj).1; rw [hlen] at this; exact this
        have ho : o = q j := by
          rw [List.getElem?_map, List.getElem?_range hjl] at hj
          simpa using hj.symm
        subst ho
        have hk := (hq j hjl).1
        have p0 := hk 0 (by omega)
        have p1 := hk 1 (by omega)
        have p2 := hk 2 (by omega)
        have p3 := hk 3 (by omega)
        have p4 := hk 4 (by omega)
        rw [Go.Lib.add_plain] at p0 p1 p2 p3 p4
        simp only [List.getElem?_cons_zero, List.getElem?_cons_succ, Nat.add_zero, ← Nat.add_assoc] at p0 p1 p2 p3 p4
        exact ⟨p0, p1, p2, p3, p4⟩
      · intro o ho
        rw [List.mem_map] at ho
        obtain ⟨i, hi, rfl⟩ := ho
        exact (hq i (List.mem_range.1 hi)).2
end Go.Proofs.YtdgbmcbkbkbdoaaGreatDoor
