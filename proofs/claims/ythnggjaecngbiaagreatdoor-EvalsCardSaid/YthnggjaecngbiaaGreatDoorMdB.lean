import Derived.Test.YthnggjaecngbiaaGreatDoorCnA
import Derived.Test.YthnggjaecngbiaaGreatDoorFaB
namespace Go.Proofs.YthnggjaecngbiaaGreatDoor
open Go.RowKit
structure OkPlan (its : List PItem) : Prop where
 len : its.length ≤ 12
 can : ∀ it ∈ its, CanI it
 clen : ∀ it ∈ its, it.cols.length ≤ 3
 rlen : ∀ it ∈ its, it.rules.length ≤ 8
 num : ∀ it ∈ its, ∀ r ∈ it.rules, -1000000 ≤ r.num ∧ r.num ≤ 1000000
 width : ∀ it ∈ its, ∀ r ∈ it.rules, r.tests.length = it.cols.length
 ahead : ∀ (j : Nat) (h : j < its.length), ∀ c ∈ its[j].cols, ∃ i : Nat, placeP its c = (i : Int) ∧ i < j
 names : ∀ (j : Nat) (h : j < its.length), placeP its its[j].name = (j : Int)
 lims : ∀ it ∈ its, ∀ r ∈ it.rules, ∀ t ∈ r.tests, -1000000 ≤ t.low ∧ -1000000 ≤ t.high
theorem sameName_iff (x y : ByteArray) : sameName x y = true ↔ x = y := by
 unfold sameName
 rw [ByteArray.toList_eq, ByteArray.toList_eq]
 constructor
 ·intro h
  have h2 : x.data.toList = y.data.toList := by simpa using h
  exact ByteArray.ext (Array.toList_inj.1 h2)
 ·intro h; subst h; simp
theorem placeP_take {its : List PItem} {nm : ByteArray} {j i : Nat} (h : placeP (its.take j) nm = (i : Int)) : placeP its nm = (i : Int) ∧ i < j := by
 unfold placeP at h
 cases h2 : (its.take j).findIdx? (fun it => sameName it.name nm) with
 | none => rw [h2] at h; simp at h
 | some k =>
  rw [h2] at h
  simp only [Int.natCast_inj] at h
  subst h
  rw [List.findIdx?_eq_some_iff_getElem] at h2
  obtain ⟨hl, hp, hq⟩ := h2
  have hl' : k < j ∧ k < its.length := by simp at hl; omega
  refine ⟨?_, hl'.1⟩
  have : its.findIdx? (fun it => sameName it.name nm) = some k := by
   rw [List.findIdx?_eq_some_iff_getElem]
   refine ⟨hl'.2, by simpa using hp, fun m hm => ?_⟩
   have := hq m hm
   simpa using this
  unfold placeP
  rw [this]
theorem placeP_self {its : List PItem} {j : Nat} (h : j < its.length) (hn : namedP (its.take j) its[j].name = false) : placeP its its[j].name = (j : Int) := by
 have : its.findIdx? (fun it => sameName it.name its[j].name) = some j := by
  rw [List.findIdx?_eq_some_iff_getElem]
  refine ⟨h, (sameName_iff _ _).2 rfl, fun m hm => ?_⟩
  unfold namedP at hn
  rw [List.any_eq_false] at hn
  have := hn its[m] (List.mem_take_iff_getElem.2 ⟨m, by omega, rfl⟩)
  simpa using this
 unfold placeP
 rw [this]
theorem checkL_ok : ∀ (rest ahead : List PItem), (checkL ahead rest).2 = 0 → ∀ (j : Nat) (h : j < rest.length), checkItemP rest[j] (ahead ++ rest.take j) = 0
 | [], ahead, _, j, h => by simp at h
 | it :: rest, ahead, hc, j, h => by
  rw [checkL] at hc
  split at hc
  ·rename_i h0
   cases j with
   | zero => simpa using h0
   | succ j =>
    have := checkL_ok rest (ahead ++ [it]) hc j (by simpa using h)
    simpa using this
  ·rename_i h0
   exact absurd hc h0
theorem planOf_ok {s : ByteArray} {its : List PItem} (h : planOf s = .inr its) : OkPlan its := by
 unfold planOf at h
 split at h
 ·cases h
 split at h
 ·cases h
 rename_i its' hp
 split at h
 ·rename_i h0
  simp only [Sum.inr.injEq] at h
  subst h
  have hcan := planR_can hp
  unfold checkR at h0
  split at h0
  ·simp at h0
  rename_i hb
  have hb' : beyondB its' = false := by simpa using hb
  unfold beyondB at hb'
  rw [Bool.or_eq_false_iff] at hb'
  have hi : ∀ it ∈ its', itemBeyond it = false := fun it hi => by
   have := hb'.2
   rw [List.any_eq_false] at this
   simpa using this it hi
  have hck := checkL_ok its' [] h0
  simp only [List.nil_append] at hck
  have hstep : ∀ (j : Nat) (h : j < its'.length), namedP (its'.take j) its'[j].name = false ∧ (∀ c ∈ its'[j].cols, namedP (its'.take j) c = true) ∧ ∀ r ∈ its'[j].rules, r.tests.length = its'[j].cols.length := fun j h => by
   have h1 := hck j h
   unfold checkItemP at h1
   split at h1
   ·simp at h1
   rename_i a1
   split at h1
   ·simp at h1
   rename_i a2
   split at h1
   ·simp at h1
   rename_i a3
   refine ⟨by simpa using a1, fun c hc => ?_, fun r hr => ?_⟩
   ·have a2' := Bool.eq_false_iff.2 a2
    rw [List.any_eq_false] at a2'
    have := a2' c hc
    simpa using this
   ·have a3' := Bool.eq_false_iff.2 a3
    rw [List.any_eq_false] at a3'
    have := a3' r hr
    simpa using this
  refine ⟨by have := hb'.1; simp at this; omega, hcan, fun it hi' => ?_, fun it hi' => ?_, fun it hi' r hr => ?_, fun it hi' r hr => ?_, fun j h c hc => ?_, fun j h => placeP_self h (hstep j h).1, fun it hi' r hr t ht => ?_⟩
  ·have := hi it hi'
   unfold itemBeyond at this
   simp at this
   omega
  ·have := hi it hi'
   unfold itemBeyond at this
   simp at this
   omega
  ·have := hi it hi'
   unfold itemBeyond at this
   rw [Bool.or_eq_false_iff] at this
   have h3 := this.2
   rw [List.any_eq_false] at h3
   have h4 := h3 r hr
   unfold ruleBeyond numBeyond at h4
   simp at h4
   omega
  ·obtain ⟨j, hj, rfl⟩ := List.mem_iff_getElem.1 hi'
   exact (hstep j hj).2.2 r hr
  ·obtain ⟨i, h1, h2⟩ := placeP_in ((hstep j h).2.1 c hc)
   exact ⟨i, placeP_take h1⟩
  ·have := hi it hi'
   unfold itemBeyond at this
   rw [Bool.or_eq_false_iff] at this
   have h3 := this.2
   rw [List.any_eq_false] at h3
   have h4 := Bool.eq_false_iff.2 (h3 r hr)
   unfold ruleBeyond at h4
   rw [Bool.or_eq_false_iff] at h4
   have h5 := h4.2
   rw [List.any_eq_false] at h5
   have h6 := h5 t ht
   unfold testBeyond numBeyond at h6
   simp at h6
   omega
 ·cases h
theorem OkPlan.marks {its : List PItem} (h : OkPlan its) : ∀ it ∈ its, it.marks ≤ 7 ∧ it.drops ≤ 7 := fun it hi => by
 rcases h.can it hi with hc | hc
 ·exact ⟨hc.marks, by rw [hc.drops]; omega⟩
 ·exact ⟨by rw [hc.marks]; omega, hc.drops⟩
theorem getD_snoc {α : Type} (l : List α) (x d : α) (i : Nat) : (l ++ [x]).getD i d = if i < l.length then l.getD i d else if i = l.length then x else d := by
 rw [List.getD_eq_getElem?_getD, List.getD_eq_getElem?_getD]
 split
 ·rename_i h; rw [List.getElem?_append_left h]
 ·split
  ·rename_i h; subst h; simp
  ·rw [List.getElem?_eq_none (by simp; omega)]; rfl
theorem labsTo_get {its : List PItem} {j i : Nat} (hj : j ≤ its.length) (hi : i < j) : (labsTo its j).getD i 0 = (labsP its).getD i 0 := by
 unfold labsP
 obtain ⟨m, hm⟩ : ∃ m, its.length = j + m := ⟨its.length - j, by omega⟩
 rw [hm]
 clear hm hj
 induction m with
 | zero => rfl
 | succ m ih =>
  rw [ih, ← Nat.add_assoc, labsTo, getD_snoc, labsTo_len, if_pos (by omega)]
theorem resTo_get {its : List PItem} {vals : List Int} {j i : Nat} (d : PVal × List Nat) (hj : j ≤ its.length) (hi : i < j) : (resTo its vals j).getD i d = (resP its vals).getD i d := by
 unfold resP
 obtain ⟨m, hm⟩ : ∃ m, its.length = j + m := ⟨its.length - j, by omega⟩
 rw [hm]
 clear hm hj
 induction m with
 | zero => rfl
 | succ m ih =>
  rw [ih, ← Nat.add_assoc, resTo, getD_snoc, resTo_len, if_pos (by omega)]
theorem labsP_at {its : List PItem} {j : Nat} (h : j < its.length) : (labsP its).getD j 0 = lab1 its (labsTo its j) its[j] := by
 rw [← labsTo_get (j := j + 1) (by omega) (by omega), labsTo_succ h, getD_snoc, labsTo_len, if_neg (by omega), if_pos rfl]
theorem resP_at {its : List PItem} {vals : List Int} {j : Nat} (h : j < its.length) : (resP its vals).getD j (PVal.zero, []) = if its[j].isT then tableP its[j] (colVals its ((resTo its vals j).map Prod.fst) its[j]) else (⟨0, vals.getD (inputsTo its j) 0⟩, []) := by
 rw [← resTo_get (j := j + 1) _ (by omega) (by omega), resTo_succ vals h, getD_snoc, resTo_len, if_neg (by omega), if_pos rfl]
theorem map_getD (l : List (PVal × List Nat)) (i : Nat) : (l.map Prod.fst).getD i PVal.zero = (l.getD i (PVal.zero, [])).1 := by
 rw [List.getD_eq_getElem?_getD, List.getD_eq_getElem?_getD, List.getElem?_map]
 cases l[i]? <;> rfl
theorem colVals_at {its : List PItem} (ok : OkPlan its) (vals : List Int) {j : Nat} (h : j < its.length) : colVals its ((resTo its vals j).map Prod.fst) its[j] = its[j].cols.map fun c => ((resP its vals).getD (placeP its c).toNat (PVal.zero, [])).1 := by
 unfold colVals
 refine List.map_congr_left fun c hc => ?_
 obtain ⟨i, h1, h2⟩ := ok.ahead j h c hc
 rw [map_getD, h1, Int.toNat_natCast, resTo_get _ (by omega) h2]
theorem colLab_seen (its : List PItem) (ls : List Nat) (clear : Nat) (hc : clear ≤ 7) (hl : ∀ x ∈ ls, x ≤ 7) : ∀ (cs : List ByteArray) (m : Nat), m ≤ 7 → seenB (colLab its ls cs m) clear = true → seenB m clear = true ∧ ∀ c ∈ cs, seenB (ls.getD (placeP its c).toNat 0) clear = true
 | [], m, hm, h => ⟨h, by simp⟩
 | c :: cs, m, hm, h => by
  have h2 : ls.getD (placeP its c).toNat 0 ≤ 7 := by
   rw [List.getD_eq_getElem?_getD]
   cases hq : ls[(placeP its c).toNat]? with
   | none => simp
   | some y => exact hl y (List.mem_of_getElem? hq)
  have h3 := Nat.or_lt_two_pow (x := m) (y := ls.getD (placeP its c).toNat 0) (n := 3) (by omega) (by omega)
  have h4 := colLab_seen its ls clear hc hl cs (m ||| ls.getD (placeP its c).toNat 0) (by omega) (by unfold colLab at h ⊢; rw [List.foldl_cons] at h; exact h)
  have h5 := seenB_or hm h2 hc h4.1
  refine ⟨h5.1, fun x hx => ?_⟩
  rcases List.mem_cons.1 hx with rfl | hx
  ·exact h5.2
  ·exact h4.2 x hx
theorem and_seven {a : Nat} (h : a ≤ 7) : a &&& (7 - 0) = a := by
 have key : ∀ a : Fin 8, a.val &&& (7 - 0) = a.val := by decide
 exact key ⟨a, by omega⟩
theorem cols_seen {its : List PItem} (ok : OkPlan its) {clear : Nat} (hc : clear ≤ 7) {j : Nat} (h : j < its.length) (hd : its[j].drops = 0) (hs : seenB ((labsP its).getD j 0) clear = true) : ∀ c ∈ its[j].cols, ∃ i : Nat, placeP its c = (i : Int) ∧ i < j ∧ seenB ((labsP its).getD i 0) clear = true := fun c hcm => by
 obtain ⟨i, h1, h2⟩ := ok.ahead j h c hcm
 refine ⟨i, h1, h2, ?_⟩
 have hm := (ok.marks its[j] (List.getElem_mem h)).1
 have hle := labsTo_le (fun it hi => (ok.marks it hi).1) j
 rw [labsP_at h, lab1, hd, and_seven (colLab_le _ _ hle _ _ hm)] at hs
 have := (colLab_seen its (labsTo its j) clear hc hle _ _ hm hs).2 c hcm
 rw [h1, Int.toNat_natCast, labsTo_get (by omega) h2] at this
 exact this
theorem curtain_vals {its : List PItem} (ok : OkPlan its) {clear : Nat} (hc : clear ≤ 7) {v w : List Int}
  (hin : ∀ (j : Nat) (h : j < its.length), its[j].isT = false → seenB ((labsP its).getD j 0) clear = true → v.getD (inputsTo its j) 0 = w.getD (inputsTo its j) 0)
  (htab : ∀ (j : Nat) (h : j < its.length), its[j].isT = true → its[j].drops ≠ 0 → seenB ((labsP its).getD j 0) clear = true → ((resP its v).getD j (PVal.zero, [])).1 = ((resP its w).getD j (PVal.zero, [])).1) :
  ∀ (m j : Nat) (h : j < its.length), j < m → seenB ((labsP its).getD j 0) clear = true → ((resP its v).getD j (PVal.zero, [])).1 = ((resP its w).getD j (PVal.zero, [])).1 ∧ (its[j].drops = 0 → (resP its v).getD j (PVal.zero, []) = (resP its w).getD j (PVal.zero, []))
 | 0, j, h, hj, _ => by omega
 | m + 1, j, h, hj, hs => by
  cases hT : its[j].isT with
  | false =>
   rw [resP_at h, resP_at h, hT, if_neg (by simp), if_neg (by simp), hin j h hT hs]
   exact ⟨rfl, fun _ => rfl⟩
  | true =>
   by_cases hd : its[j].drops = 0
   ·have : (resP its v).getD j (PVal.zero, []) = (resP its w).getD j (PVal.zero, []) := by
     rw [resP_at h, resP_at h, colVals_at ok v h, colVals_at ok w h, hT, if_pos rfl, if_pos rfl]
     congr 1
     refine List.map_congr_left fun c hcm => ?_
     obtain ⟨i, h1, h2, h3⟩ := cols_seen ok hc h hd hs c hcm
     rw [h1, Int.toNat_natCast]
     exact (curtain_vals ok hc hin htab m i (by omega) (by omega) h3).1
    exact ⟨by rw [this], fun _ => this⟩
   ·exact ⟨htab j h hT hd hs, fun h0 => absurd h0 hd⟩
theorem getD_at {α : Type} (l : List α) (d : α) {j : Nat} (h : j < l.length) : l.getD j d = l[j] := by
 rw [List.getD_eq_getElem?_getD, List.getElem?_eq_getElem h]; rfl
theorem curtain_told {its : List PItem} (ok : OkPlan its) {clear : Nat} (hc : clear ≤ 7) {v w : List Int}
  (hin : ∀ (j : Nat) (h : j < its.length), its[j].isT = false → seenB ((labsP its).getD j 0) clear = true → v.getD (inputsTo its j) 0 = w.getD (inputsTo its j) 0)
  (htab : ∀ (j : Nat) (h : j < its.length), its[j].isT = true → its[j].drops ≠ 0 → seenB ((labsP its).getD j 0) clear = true → ((resP its v).getD j (PVal.zero, [])).1 = ((resP its w).getD j (PVal.zero, [])).1) :
  explainP its clear v = explainP its clear w := by
 have key : ∀ j, j ≤ its.length → toldTo its (labsP its) (resP its v) clear j = toldTo its (labsP its) (resP its w) clear j := by
  intro j
  induction j with
  | zero => intro _; rfl
  | succ j ih =>
   intro hj
   rw [toldTo, toldTo, ih (by omega)]
   congr 1
   unfold lineOut
   cases hs : seenB ((labsP its).getD j 0) clear with
   | false => rfl
   | true =>
    obtain ⟨h1, h2⟩ := curtain_vals ok hc hin htab (j + 1) j (by omega) (by omega) hs
    rw [getD_at its noItem (by omega)]
    simp only [if_true]
    congr 2
    unfold knownOut
    by_cases hd : its[j].drops = 0
    ·rw [h2 hd]
    ·rw [h1]
     simp [hd]
 exact key _ (Nat.le_refl _)
end Go.Proofs.YthnggjaecngbiaaGreatDoor
namespace Go.Proofs.YthnggjaecngbiaaGreatDoor
open Go.RowKit
def PlanAt (w : World) (g : Nat) (its : List PItem) : Prop :=
 ∃ v xs, w.heap[g]? = some (.cells #[v] 98) ∧ ItemsV w v xs ∧ xs.map LItem.it = its ∧ (∀ x ∈ xs, WfI x.it) ∧ OkPlan its
theorem PlanAt.below {w w' : World} {g : Nat} {its : List PItem} (h : PlanAt w g its) (b : Below w.heap.size w w') : PlanAt w' g its := by
 obtain ⟨v, xs, h1, h2, h3⟩ := h
 exact ⟨v, xs, (b.block g (lt_of_block h1)).trans h1, h2.below b, h3⟩
def POwn (w : World) (g : Nat) (its : List PItem) : Prop :=
 ∃ v xs base, w.heap[g]? = some (.cells #[v] 98) ∧ ItemsAt base w v xs ∧ xs.map LItem.it = its ∧ (∀ x ∈ xs, WfI x.it) ∧ OkPlan its
theorem POwn.plan {w : World} {g : Nat} {its : List PItem} (h : POwn w g its) : PlanAt w g its := by
 obtain ⟨v, xs, base, h1, h2, h3⟩ := h
 exact ⟨v, xs, h1, ItemsV.of_at h2, h3⟩
structure Door2 (N : Nat) (x0 : Value) (x1 : Int) (w : World) : Prop where
 b0 : w.heap[N]? = some (.cells #[x0] 35)
 b1 : w.heap[N + 1]? = some (.cells #[.int .i64 x1] 27)
theorem Door2.cells {N : Nat} {x0 : Value} {x1 : Int} {w : World} (h : Door2 N x0 x1 w) :
  (w.cell? ⟨N, 0, none⟩ = some x0 ∧ w.cell? ⟨N + 1, 0, none⟩ = some (.int .i64 x1)) ∧ w.frozen? ⟨N, 0, none⟩ = false ∧ w.frozen? ⟨N + 1, 0, none⟩ = false := by
 have h0 := h.b0
 have h1 := h.b1
 simp [World.cell?, World.frozen?, h0, h1]
theorem Door2.below {N : Nat} {x0 : Value} {x1 : Int} {w w' : World} (h : Door2 N x0 x1 w) (g : Below w.heap.size w w') : Door2 N x0 x1 w' :=
 ⟨by rw [g.block _ (lt_of_block h.b0)]; exact h.b0, by rw [g.block _ (lt_of_block h.b1)]; exact h.b1⟩
theorem Door2.set0 {N : Nat} {x0 y0 : Value} {x1 : Int} {w : World} (h : Door2 N x0 x1 w) : Door2 N y0 x1 (w.setCell ⟨N, 0, none⟩ y0) := by
 refine ⟨?_, ?_⟩
 ·rw [heap_set_same h.b0]; rfl
 ·rw [Below.heap_setCell _ _ _ _ (by simp only; omega)]; exact h.b1
theorem Door2.set1 {N : Nat} {x0 : Value} {x1 y1 : Int} {w : World} (h : Door2 N x0 x1 w) : Door2 N x0 y1 (w.setCell ⟨N + 1, 0, none⟩ (.int .i64 y1)) := by
 refine ⟨?_, ?_⟩
 ·rw [Below.heap_setCell _ _ _ _ (by simp only; omega)]; exact h.b0
 ·rw [heap_set_same h.b1]; rfl
set_option maxRecDepth 100000 in
set_option maxHeartbeats 400000 in
theorem ncatch_panicking (B N : Nat) (x0 : Value) (x1 : Int) (p : Int) (older : List PanicEntry) (w : World) (hd : Door2 N x0 x1 w) (hB : B ≤ N) :
  CallsD Tryz.prog 49 #[.pointer (some ⟨N, 0, none⟩), .pointer (some ⟨N + 1, 0, none⟩)] (.panicking ({ v := .iface 110 (.agg #[.int .i64 p]), recovered := false } :: older)) w fun e u' w' =>
   e = .returned (.tuple #[]) ∧ u' = .panicking ({ v := .iface 110 (.agg #[.int .i64 p]), recovered := true } :: older) ∧ Door2 N (.pointer none) 1 w' ∧ Below B w w' := by
 have hlt := lt_of_block hd.b1
 obtain ⟨⟨c0, c1⟩, f0, f1⟩ := hd.cells
 have HD := hide (hd.set0 (y0 := .pointer none))
 clear hd c1 f1
 refine callsD_of_wpS Tryz.func49 rfl fun c₀ cs hu => ?_
 apply wpS_seq
 apply wpS_region
 simp [wpOpsS, go_sem, recoverD, hu, Tryz.ntmps49, Exit.thenS]
 rw [show (#[Value.pointer (some ⟨N, 0, none⟩), Value.pointer (some ⟨N + 1, 0, none⟩)] ++ ((Array.replicate 9 undef).setIfInBounds 1 (Value.iface 110 (Value.agg #[Value.int IntKind.i64 p]))).setIfInBounds 0 (Value.iface 110 (Value.agg #[Value.int IntKind.i64 p]))) = #[Value.pointer (some ⟨N, 0, none⟩), Value.pointer (some ⟨N + 1, 0, none⟩), Value.iface 110 (Value.agg #[Value.int IntKind.i64 p]), Value.iface 110 (Value.agg #[Value.int IntKind.i64 p]), undef, undef, undef, undef, undef, undef, undef] from rfl]
 refine wpS_of_wp ?_
 go_wp2_with fail
 refine (faultOf_any _ _).mono ?_
 rintro e w1 ⟨rfl, hb⟩
 have HD1 := hide ((uh HD).below hb)
 have HB := hide hb
 have hs : w.heap.size ≤ w1.heap.size := by have := hb.size; simpa using this
 obtain ⟨⟨c0, c1⟩, f0, f1⟩ := ((uh HD).below hb).cells
 clear hb
 go_wp2
 refine ⟨rfl, _, rfl, .tuple #[], by simp [results, Tryz.results49], rfl, rfl, (uh HD1).set1, ?_⟩
 have hb0 : Below B w (w.setCell ⟨N, 0, none⟩ (.pointer none)) := (Below.refl _ _).setCell (p := ⟨N, 0, none⟩) hB _
 exact (hb0.trans ((uh HB).mono (by simp; omega))).setCell (p := ⟨N + 1, 0, none⟩) (by simp only; omega) _
set_option maxRecDepth 100000 in
set_option maxHeartbeats 400000 in
theorem ncatch_idle (N : Nat) (w : World) :
  CallsD Tryz.prog 49 #[.pointer (some ⟨N, 0, none⟩), .pointer (some ⟨N + 1, 0, none⟩)] .returning w fun e u' w' => e = .returned (.tuple #[]) ∧ u' = .returning ∧ w' = w := by
 refine callsD_of_wpS Tryz.func49 rfl fun c₀ cs hu => ?_
 apply wpS_seq
 apply wpS_region
 simp [wpOpsS, go_sem, recoverD, hu, Tryz.ntmps49, Exit.thenS]
 rw [show (#[Value.pointer (some ⟨N, 0, none⟩), Value.pointer (some ⟨N + 1, 0, none⟩)] ++ ((Array.replicate 9 undef).setIfInBounds 1 (Value.nilIface)).setIfInBounds 0 (Value.nilIface)) = #[Value.pointer (some ⟨N, 0, none⟩), Value.pointer (some ⟨N + 1, 0, none⟩), Value.nilIface, Value.nilIface, undef, undef, undef, undef, undef, undef, undef] from rfl]
 refine wpS_of_wp ?_
 have HU := hide hu
 clear hu
 go_wp2
 refine ⟨rfl, .returning, ?_, .tuple #[], by simp [results, Tryz.results49], rfl, rfl, rfl⟩
 have := uh HU
 cases c₀
 simp_all
def NewOf (s : ByteArray) (w : World) (e : Ending) (w' : World) : Prop :=
 (∃ n ce, planOf s = .inl (n, ce) ∧ e = .returned (.tuple #[.pointer none, .int .i64 ce]) ∧ Below w.heap.size w w') ∨
 (∃ its g, planOf s = .inr its ∧ e = .returned (.tuple #[.pointer (some ⟨g, 0, none⟩), .int .i64 0]) ∧ Below w.heap.size w w' ∧ w.heap.size ≤ g ∧ PlanAt w' g its)
def NewOwn (s : ByteArray) (w : World) (e : Ending) (w' : World) : Prop :=
 (∃ n ce, planOf s = .inl (n, ce) ∧ e = .returned (.tuple #[.pointer none, .int .i64 ce]) ∧ Below w.heap.size w w') ∨
 (∃ its g, planOf s = .inr its ∧ e = .returned (.tuple #[.pointer (some ⟨g, 0, none⟩), .int .i64 0]) ∧ Below w.heap.size w w' ∧ w.heap.size ≤ g ∧ POwn w' g its)
set_option maxRecDepth 100000 in
set_option maxHeartbeats 1600000 in
theorem new_own (s : ByteArray) (w : World) (hm : s.size ≤ maxLen) : Calls Tryz.prog 28 #[.string s] w (NewOwn s w) := by
 have hmf : ∀ (fn : Fn) (first cap : Array Value) (w : World), (Instr.makeFunc fn first cap).run Tryz.prog w = .ok (.func fn first cap) w := fun _ _ _ _ => rfl
 have HM := hide hm
 clear hm
 have HD0 : Hid (Door2 w.heap.size (.pointer none) 0 ((w.alloc (.cells #[.pointer none] 35)).alloc (.cells #[.int .i64 0] 27))) := by
  refine ⟨?_, ?_⟩
  ·rw [Below.heap_alloc _ _ _ (by simp)]; exact alloc_last w _
  ·have := alloc_last (w.alloc (.cells #[.pointer none] 35)) (.cells #[.int .i64 0] 27)
   simpa using this
 have HB0 : Hid (Below w.heap.size w ((w.alloc (.cells #[.pointer none] 35)).alloc (.cells #[.int .i64 0] 27))) := hide (((Below.refl _ w).alloc (Nat.le_refl _) _).alloc (by simp) _)
 go_enter_defers Tryz.func28, Tryz.ntmps28
 go_wp2_with fail
 refine (itemsOf_any s _ (uh HM)).mono ?_
 rintro e w1 (⟨p, hp, rfl, hb1⟩ | ⟨cn, ce, ao, n, cap, hp, hz, rfl, hb1⟩ | ⟨its, cn, ao, n, cap, xs, hp, rfl, hb1, hxs, hit, hwf, hx1, hn⟩)
 ·have HF := hide hp
  have HD1 := hide ((uh HD0).below hb1)
  have HB1 := hide (below_after (uh HB0) hb1)
  clear hp hb1
  go_wp2_with fail
  refine leaves_cons (f := 49) (args := #[.pointer (some ⟨w.heap.size, 0, none⟩), .pointer (some ⟨w.heap.size + 1, 0, none⟩)]) (by simp) (by simp [go_sem]) ?_
  refine (ncatch_panicking w.heap.size w.heap.size _ _ _ [] _ (uh HD1) (Nat.le_refl _)).mono ?_
  rintro e u' w'' ⟨rfl, rfl, hd, hb⟩
  obtain ⟨⟨c0, c1⟩, _⟩ := hd.cells
  simp [Leaves, settle, results, Tryz.results28, go_sem, c0, c1]
  exact Or.inl ⟨p, 1, uh HF, rfl, (uh HB1).trans hb⟩
 ·have HF := hide hp
  have HD2 := hide ((uh HD0).below hb1)
  have HB2 := hide (below_after (uh HB0) hb1)
  obtain ⟨⟨c0, c1⟩, f0, f1⟩ := ((uh HD0).below hb1).cells
  have HD3 := hide ((uh HD2).set1 (y1 := ce))
  have HB3 := hide ((uh HB2).setCell (p := ⟨w.heap.size + 1, 0, none⟩) (by simp only; omega) (.int .i64 ce))
  have hzb : (ce != 0) = true := by rw [bne_iff_ne]; exact hz
  clear hp hb1 hz HD0 HB0
  go_wp2_with fail
  generalize w1.setCell ⟨w.heap.size + 1, 0, none⟩ (.int .i64 ce) = w3 at *
  clear c0 c1 f0 f1 HD2 HB2
  obtain ⟨⟨c0, c1⟩, f0, f1⟩ := (uh HD3).cells
  go_region
  all_goals
   go_wp2
   refine leaves_cons (f := 49) (args := #[.pointer (some ⟨w.heap.size, 0, none⟩), .pointer (some ⟨w.heap.size + 1, 0, none⟩)]) (by simp) (by simp [go_sem]) ?_
   refine (ncatch_idle w.heap.size _).mono ?_
   rintro e u' w'' ⟨rfl, rfl, rfl⟩
   simp [Leaves, settle, results, Tryz.results28, go_sem, c0, c1]
   refine Or.inl ⟨cn, ce, uh HF, rfl, ?_⟩
   first | exact (((uh HB3).setCell (p := ⟨w.heap.size, 0, none⟩) (Nat.le_refl _) _).setCell (p := ⟨w.heap.size + 1, 0, none⟩) (by simp only; omega) _).drew | exact ((uh HB3).setCell (p := ⟨w.heap.size, 0, none⟩) (Nat.le_refl _) _).setCell (p := ⟨w.heap.size + 1, 0, none⟩) (by simp only; omega) _
 ·subst hn
  have HF := hide hp
  have hok := planOf_ok hp
  have HK := hide hok
  have HX := hide hxs
  have HWF := hide hwf
  have HD2 := hide ((uh HD0).below hb1)
  have HB2 := hide (below_after (uh HB0) hb1)
  obtain ⟨⟨c0, c1⟩, f0, f1⟩ := ((uh HD0).below hb1).cells
  have HD3 := hide ((uh HD2).set1 (y1 := 0))
  have HB3 := hide ((uh HB2).setCell (p := ⟨w.heap.size + 1, 0, none⟩) (by simp only; omega) (.int .i64 0))
  obtain ⟨w4, hw4⟩ : ∃ w4, w4 = ((w1.setCell ⟨w.heap.size + 1, 0, none⟩ (.int .i64 0)).setCell ⟨w.heap.size, 0, none⟩ (.pointer (some ⟨w1.heap.size, 0, none⟩))).setCell ⟨w.heap.size + 1, 0, none⟩ (.int .i64 0) := ⟨_, rfl⟩
  have hs4 : w4.heap.size = w1.heap.size := by rw [hw4]; simp [World.setCell]
  have HV4 := hide (hit.all (w' := w4.alloc (.cells #[.slice ao xs.length cap] 98)) (fun g hg hlt => by
   simp at hg
   rw [Below.heap_alloc _ _ _ (by omega), hw4, Below.heap_setCell _ _ _ _ (by simp only; omega), Below.heap_setCell _ _ _ _ (by simp only; omega), Below.heap_setCell _ _ _ _ (by simp only; omega)]))
  have hD4 : Door2 w.heap.size (.pointer (some ⟨w1.heap.size, 0, none⟩)) 0 w4 := by rw [hw4]; exact (((uh HD2).set1 (y1 := 0)).set0).set1
  have hB4 : Below w.heap.size w w4 := by
   rw [hw4]
   exact (((uh HB2).setCell (p := ⟨w.heap.size + 1, 0, none⟩) (by simp only; omega) _).setCell (p := ⟨w.heap.size, 0, none⟩) (Nat.le_refl _) _).setCell (p := ⟨w.heap.size + 1, 0, none⟩) (by simp only; omega) _
  have hba : Below w4.heap.size w4 (w4.alloc (.cells #[.slice ao xs.length cap] 98)) := (Below.refl _ w4).alloc (Nat.le_refl _) _
  have HD5 := hide (hD4.below hba)
  have HB5 := hide (below_after hB4 hba)
  have HN5 : Hid ((w4.alloc (.cells #[.slice ao xs.length cap] 98)).heap[w1.heap.size]? = some (.cells #[.slice ao xs.length cap] 98)) := hide (by rw [← hs4]; exact alloc_last w4 _)
  have HW4 := hide hw4
  have HLE := hide (uh HB2).size
  clear hw4 hs4 hD4 hB4 hba
  have hlt0 := lt_of_block (uh HD2).b0
  have hlt1 := lt_of_block (uh HD2).b1
  clear hp hb1 hok hxs hwf hit HD0 HB0
  go_wp2_with fail
  rw [← uh HW4]
  refine leaves_cons (f := 49) (args := #[.pointer (some ⟨w.heap.size, 0, none⟩), .pointer (some ⟨w.heap.size + 1, 0, none⟩)]) (by simp) (by simp [go_sem]) ?_
  refine (ncatch_idle w.heap.size _).mono ?_
  rintro e u' w'' ⟨rfl, rfl, rfl⟩
  obtain ⟨⟨d0, d1⟩, _⟩ := (uh HD5).cells
  simp only [Leaves, settle, results, Tryz.results28]
  simp [go_sem, d0, d1]
  exact Or.inr ⟨its, w1.heap.size, uh HF, rfl, uh HB5, uh HLE, _, xs, _, uh HN5, uh HV4, uh HX, uh HWF, uh HK⟩
theorem new_any (s : ByteArray) (w : World) (hm : s.size ≤ maxLen) : Calls Tryz.prog 28 #[.string s] w (NewOf s w) :=
 (new_own s w hm).mono fun _ _ h => by
  rcases h with h | ⟨its, g, h1, h2, h3, h4, h5⟩
  ·exact Or.inl h
  ·exact Or.inr ⟨its, g, h1, h2, h3, h4, h5.plan⟩
end Go.Proofs.YthnggjaecngbiaaGreatDoor
