import Derived.Test.YthnggjaecngbiaaGreatDoorMeB
import Derived.Test.YthnggjaecngbiaaGreatDoorKpD
namespace Go.Proofs.YthnggjaecngbiaaGreatDoor
open Go.RowKit

theorem getD_snoc_ex {α : Type} (x y z d : α) : [x, y, z].getD 2 d = z := rfl
/-- The numbers of the rules met among the first j. -/
def nsM (R : List RawR) (a b : Int) (j : Nat) : List Int := numsOf (R.map ruleM) (metTo (R.map ruleM) [⟨0, a⟩, ⟨0, b⟩] j)
theorem nsM_zero (R : List RawR) (a b : Int) : nsM R a b 0 = [] := rfl
theorem nsM_succ {R : List RawR} {a b : Int} {j : Nat} (h : j < R.length) : nsM R a b (j + 1) = nsM R a b j ++ (if meetsP (testM R[j].x R[j].y) 0 a && meetsP (testM R[j].u R[j].v) 0 b then [numM R[j].n] else []) := by
  unfold nsM
  rw [metTo_succ _ _ _ (by simpa using h)]
  unfold numsOf
  rw [List.map_append]
  congr 1
  have e : ruleMet ((R.map ruleM)[j]'(by simpa using h)).tests [⟨0, a⟩, ⟨0, b⟩] = (meetsP (testM R[j].x R[j].y) 0 a && meetsP (testM R[j].u R[j].v) 0 b) := by
    rw [List.getElem_map]
    simp [ruleMet, ruleM]
  rw [e]
  split
  · simp [numOf, h, ruleM]
  · rfl
theorem nsM_len (R : List RawR) (a b : Int) (j : Nat) : (nsM R a b j).length ≤ j := by
  unfold nsM numsOf
  rw [List.length_map]
  exact metTo_len _ _ _
theorem nsM_bd {R : List RawR} {a b : Int} : ∀ x ∈ nsM R a b R.length, -1000 ≤ x ∧ x ≤ 1000 := fun x hx => by
  unfold nsM numsOf at hx
  rw [List.mem_map] at hx
  obtain ⟨i, hi, rfl⟩ := hx
  have := metTo_lt (rs := R.map ruleM) (j := R.length) (by simp) i hi
  simp at this
  have e : numOf (R.map ruleM) i = numM R[i].n := by simp [numOf, this, ruleM]
  rw [e]
  exact numM_bd _
theorem placeX (pol : Int) (R : List RawR) : placeP (planM pol R) nmX = 0 := by
  unfold placeP planM
  kernel_rfl
theorem placeY (pol : Int) (R : List RawR) : placeP (planM pol R) nmY = 1 := by
  unfold placeP planM
  kernel_rfl
theorem tabsM (pol : Int) (R : List RawR) (a b : Int) : tabsP (planM pol R) [a, b] = [decideP pol (nsM R a b R.length)] := by
  have r3 : resP (planM pol R) [a, b] = [(⟨0, a⟩, []), (⟨0, b⟩, []), tableP ⟨nmT, true, 0, pol, [nmX, nmY], 0, R.map ruleM⟩ [⟨0, a⟩, ⟨0, b⟩]] := by
    have hc : colVals (planM pol R) [⟨0, a⟩, ⟨0, b⟩] ⟨nmT, true, 0, pol, [nmX, nmY], 0, R.map ruleM⟩ = [⟨0, a⟩, ⟨0, b⟩] := by
      unfold colVals
      simp only [List.map_cons, List.map_nil, placeX, placeY]
      rfl
    show resTo (planM pol R) [a, b] 3 = _
    rw [← hc]
    rfl
  unfold tabsP
  rw [r3]
  show [(tableP _ _).1] = _
  unfold tableP nsM metP
  simp
theorem inputsM (pol : Int) (R : List RawR) : inputsP (planM pol R) = 2 := rfl
theorem fitsM (pol : Int) (R : List RawR) {a b : Int} (ha : -20 ≤ a ∧ a ≤ 20) (hb : -20 ≤ b ∧ b ≤ 20) : fitsP (planM pol R) [a, b] = true := by
  unfold fitsP
  rw [inputsM]
  have nb : ∀ n : Int, -20 ≤ n → n ≤ 20 → numBeyond n = false := fun n a b => by unfold numBeyond; simp; omega
  simp [nb a ha.1 ha.2, nb b hb.1 hb.2]
/-- The text so far. -/
def txtM (pol : Int) (R : List RawR) (j : Nat) : List UInt8 := textM pol (R.take j)
theorem txtM_succ {pol : Int} {R : List RawR} {j : Nat} (h : j < R.length) : txtM pol R (j + 1) = txtM pol R j ++ (testOut (testM R[j].x R[j].y) ++ [44] ++ testOut (testM R[j].u R[j].v) ++ [61] ++ Lib.itoa (numM R[j].n) ++ [59]) := by
  unfold txtM textM
  rw [List.take_succ_eq_append_getElem h, List.map_append, List.flatMap_append]
  simp [ruleOut, ruleM, tOuts]
theorem txtM_len {pol : Int} {R : List RawR} {j : Nat} (h : R.length ≤ 8) : (txtM pol R j).length ≤ 900 := textM_len (by rw [List.length_take]; omega)
theorem testM_len (x y : Int) : (testOut (testM x y)).length ≤ 20 := by
  have hx := smallP_bd x
  have hy := smallP_bd y
  have h1 := itoa_len (n := smallP x) (by omega) (by omega)
  have h2 := itoa_len (n := smallP y) (by omega) (by omega)
  unfold testM
  split
  · simp [testOut, bareOut, Lib.repeatL]; omega
  · simp [testOut, bareOut, Lib.repeatL]; omega
theorem box5 {w : World} {N : Nat} {a b c d e : Value} {T : TypeId} (h : w.heap[N]? = some (.cells #[a, b, c, d, e] T)) :
    w.cell? ⟨N, 0, none⟩ = some a ∧ w.cell? ⟨N, 1, none⟩ = some b ∧ w.cell? ⟨N, 2, none⟩ = some c ∧ w.cell? ⟨N, 3, none⟩ = some d ∧ w.cell? ⟨N, 4, none⟩ = some e := by
  simp [World.cell?, h]
/-- The greatest number so far. -/
def mostM (l : List Int) : Int := l.foldl max (-1001)
theorem most_foldl : ∀ (l : List Int) (c x : Int), c ≤ x → (x :: l).foldl max c = l.foldl max x := fun l c x h => by
  rw [List.foldl_cons, Int.max_eq_right h]
theorem most_take (l : List Int) (j : Nat) (h : j < l.length) : mostM (l.take (j + 1)) = max (mostM (l.take j)) l[j] := by
  unfold mostM
  rw [List.take_succ_eq_append_getElem h, List.foldl_append]
  rfl
theorem most_bd : ∀ (l : List Int) (c : Int), (∀ x ∈ l, -1000 ≤ x ∧ x ≤ 1000) → -1001 ≤ c → c ≤ 1000 → -1001 ≤ l.foldl max c ∧ l.foldl max c ≤ 1000
  | [], c, _, h1, h2 => ⟨h1, h2⟩
  | x :: l, c, h, h1, h2 => by
    have hx := h x (by simp)
    rw [List.foldl_cons]
    exact most_bd l (max c x) (fun y hy => h y (by simp [hy])) (by omega) (by omega)
/-- The policy's letter. -/
def polM (q : Nat) : Int := [85, 70, 83, 78, 80].getD q 80
/-- Rules that came in. -/
def RawRs (w : World) (v : Value) (raw : List RawR) : Prop :=
  (raw = [] ∧ ∃ ao cap, v = .slice ao 0 cap) ∨ ∃ g off cap, v = .slice (some ⟨g, off, none⟩) raw.length cap ∧ raw.length ≤ cap ∧ cap ≤ maxLen ∧ g < w.heap.size ∧ ∀ j r, raw[j]? = some r → w.cell? ⟨g, off + j * 5, none⟩ = some (.int .i64 r.x) ∧ w.cell? ⟨g, off + j * 5 + 1, none⟩ = some (.int .i64 r.y) ∧ w.cell? ⟨g, off + j * 5 + 2, none⟩ = some (.int .i64 r.u) ∧ w.cell? ⟨g, off + j * 5 + 3, none⟩ = some (.int .i64 r.v) ∧ w.cell? ⟨g, off + j * 5 + 4, none⟩ = some (.int .i64 r.n)
theorem RawRs.form {w : World} {v : Value} {raw : List RawR} (h : RawRs w v raw) : ∃ ao cap, v = .slice ao raw.length cap := by
  rcases h with ⟨rfl, ao, cap, rfl⟩ | ⟨g, off, cap, rfl, _⟩
  · exact ⟨ao, cap, rfl⟩
  · exact ⟨_, _, rfl⟩
theorem RawRs.len {w : World} {v : Value} {raw : List RawR} (h : RawRs w v raw) : raw.length ≤ maxLen := by
  rcases h with ⟨rfl, _⟩ | ⟨g, off, cap, _, h1, h2, _⟩
  · simp
  · omega
/-- Numbers of 64 bits. -/
def I64 (x : Int) : Prop := -9223372036854775808 ≤ x ∧ x ≤ 9223372036854775807
def RawR.ok (r : RawR) : Prop := I64 r.x ∧ I64 r.y ∧ I64 r.u ∧ I64 r.v ∧ I64 r.n
end Go.Proofs.YthnggjaecngbiaaGreatDoor

namespace Go.Proofs.YthnggjaecngbiaaGreatDoor
open Go.ChangeShapes Go.WideShapes Go.ChangeAt Go.RowKit

theorem rk_cellsRule : Tryz.prog.cellsOf 62 = 5 := by kernel_rfl
set_option maxRecDepth 100000 in
theorem open_rule {H : Type} {enc : TypeId × Value → H} {W : World} {base : Nat} {sp : Nat → Bool} {held : Bool} {n : Nat} {cs : List Value} {x : DataW H × List MemPlace} (h : DataW.trod enc Tryz.prog W base sp held n 62 cs = some x) :
    ∃ o : RawR, cs = [.int .i64 o.x, .int .i64 o.y, .int .i64 o.u, .int .i64 o.v, .int .i64 o.n] ∧ o.ok := by
  obtain ⟨xs, k, hk, hxy, hl, hxl, hf⟩ := DataW.trod_struct Tryz.underlying62 h
  rw [rk_cellsRule] at hl
  match xs, hxl, cs, hl with
  | [y0, y1, y2, y3, y4], _, [v0, v1, v2, v3, v4], _ =>
    have g0 : DataW.trod enc Tryz.prog W base sp held k 3 [v0] = some y0 := by
      have h : DataW.trod enc Tryz.prog W base sp held k 3 (List.take (Tryz.prog.cellsOf 3) (List.drop 0 [v0, v1, v2, v3, v4])) = some y0 := hf 0 _ rfl
      rw [rk_cellsInt] at h
      exact h
    obtain ⟨n0, e0, _, f0⟩ := DataW.trod_int Tryz.underlying3 g0
    have e0 := List.head_eq_of_cons_eq e0
    have g1 : DataW.trod enc Tryz.prog W base sp held k 3 [v1] = some y1 := by
      have h : DataW.trod enc Tryz.prog W base sp held k 3 (List.take (Tryz.prog.cellsOf 3) (List.drop 1 [v0, v1, v2, v3, v4])) = some y1 := hf 1 _ rfl
      rw [rk_cellsInt] at h
      exact h
    obtain ⟨n1, e1, _, f1⟩ := DataW.trod_int Tryz.underlying3 g1
    have e1 := List.head_eq_of_cons_eq e1
    have g2 : DataW.trod enc Tryz.prog W base sp held k 3 [v2] = some y2 := by
      have h : DataW.trod enc Tryz.prog W base sp held k 3 (List.take (Tryz.prog.cellsOf 3) (List.drop 2 [v0, v1, v2, v3, v4])) = some y2 := hf 2 _ rfl
      rw [rk_cellsInt] at h
      exact h
    obtain ⟨n2, e2, _, f2⟩ := DataW.trod_int Tryz.underlying3 g2
    have e2 := List.head_eq_of_cons_eq e2
    have g3 : DataW.trod enc Tryz.prog W base sp held k 3 [v3] = some y3 := by
      have h : DataW.trod enc Tryz.prog W base sp held k 3 (List.take (Tryz.prog.cellsOf 3) (List.drop 3 [v0, v1, v2, v3, v4])) = some y3 := hf 3 _ rfl
      rw [rk_cellsInt] at h
      exact h
    obtain ⟨n3, e3, _, f3⟩ := DataW.trod_int Tryz.underlying3 g3
    have e3 := List.head_eq_of_cons_eq e3
    have g4 : DataW.trod enc Tryz.prog W base sp held k 3 [v4] = some y4 := by
      have h : DataW.trod enc Tryz.prog W base sp held k 3 (List.take (Tryz.prog.cellsOf 3) (List.drop 4 [v0, v1, v2, v3, v4])) = some y4 := hf 4 _ rfl
      rw [rk_cellsInt] at h
      exact h
    obtain ⟨n4, e4, _, f4⟩ := DataW.trod_int Tryz.underlying3 g4
    have e4 := List.head_eq_of_cons_eq e4
    subst e0 e1 e2 e3 e4
    exact ⟨⟨n0, n1, n2, n3, n4⟩, rfl, int_wf f0, int_wf f1, int_wf f2, int_wf f3, int_wf f4⟩

set_option maxRecDepth 100000 in
theorem open_rules {H : Type} {enc : TypeId × Value → H} {W : World} {base b0 : Nat} {r : Reach} {sp : Nat → Bool} {held : Bool} {v : Value} {d : DataW H} {ps : List MemPlace} (hval : Value.okWide Tryz.prog W r b0 58 v) (hd : DataW.Trod enc Tryz.prog W base sp held 58 v d ps) :
    ∃ ops, RawRs W v ops ∧ ∀ o ∈ ops, o.ok := by
  obtain ⟨a, len, cap, rfl⟩ := okWide_slice Tryz.underlying58 hval
  obtain ⟨fuel, hf⟩ := hd
  have hc : (Value.slice a len cap).cells.toList = [.slice a len cap] := by simp [Value.cells]
  rw [hc] at hf
  rcases Deep.open_slice Tryz.underlying58 hf with ⟨h0, _⟩ | ⟨a', len', cap', m, n, D, Pl, hcs, hb, hl, hm, hmm, hx, hall⟩
  · simp only [List.cons.injEq, Value.slice.injEq, and_true] at h0
    obtain ⟨rfl, rfl, rfl⟩ := h0
    exact ⟨[], Or.inl ⟨rfl, _, _, rfl⟩, by simp⟩
  · simp only [List.cons.injEq, Value.slice.injEq, and_true] at hcs
    obtain ⟨rfl, rfl, rfl⟩ := hcs
    have hlm : len ≤ m := by rw [hmm]; split <;> omega
    have each : ∀ i, i < len → ∃ o : RawR, (∀ k, k < 5 → W.cell? (a'.add (i * 5 + k)) = ([.int .i64 o.x, .int .i64 o.y, .int .i64 o.u, .int .i64 o.v, .int .i64 o.n] : List Value)[k]?) ∧ o.ok := by
      intro i hi
      obtain ⟨cs', h1, h2⟩ := hall i (by omega)
      rw [rk_cellsRule] at h1
      obtain ⟨_, _, hcell⟩ := World.cells?_some h1
      obtain ⟨o, rfl, hs⟩ := open_rule h2
      exact ⟨o, fun k hk => by rw [← Deep.add_add]; exact hcell k hk, hs⟩
    haveI : Inhabited RawR := ⟨⟨0, 0, 0, 0, 0⟩⟩
    obtain ⟨q, hq⟩ := Deep.choose_lt each
    have hlen : ((List.range len).map q).length = len := by simp
    by_cases hz : len = 0
    · subst hz
      exact ⟨[], Or.inl ⟨rfl, _, _, rfl⟩, by simp⟩
    · have h00 := (hq 0 (by omega)).1 0 (by omega)
      obtain ⟨g, off, spot⟩ := a'
      have hspot : spot = none := by simpa [Addr.add] using World.cell?_spot h00
      subst hspot
      have hg : g < W.heap.size := by
        rcases Nat.lt_or_ge g W.heap.size with h | h
        · exact h
        · simp [World.cell?, Addr.add, Array.getElem?_eq_none h] at h00
      refine ⟨(List.range len).map q, Or.inr ⟨g, off, cap, by rw [hlen], by rw [hlen]; exact hl, hm, hg, ?_⟩, ?_⟩
      · intro j o hj
        have hjl : j < len := by have := (List.getElem?_eq_some_iff.1 hj).1; rw [hlen] at this; exact this
        have ho : o = q j := by
          rw [List.getElem?_map, List.getElem?_range hjl] at hj
          simpa using hj.symm
        subst ho
        have hk := (hq j hjl).1
        have p0 := hk 0 (by omega)
        have p1 := hk 1 (by omega)
        have p2 := hk 2 (by omega)
        have p3 := hk 3 (by omega)
        have p4 := hk 4 (by omega)
        rw [Go.Lib.add_plain] at p0 p1 p2 p3 p4
        simp only [List.getElem?_cons_zero, List.getElem?_cons_succ, Nat.add_zero, ← Nat.add_assoc] at p0 p1 p2 p3 p4
        exact ⟨p0, p1, p2, p3, p4⟩
      · intro o ho
        rw [List.mem_map] at ho
        obtain ⟨i, hi, rfl⟩ := ho
        exact (hq i (List.mem_range.1 hi)).2
end Go.Proofs.YthnggjaecngbiaaGreatDoor

