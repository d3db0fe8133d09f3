import Derived.Test.YthnggjaecngbiaaGreatDoorCnA
namespace Go.Proofs.YthnggjaecngbiaaGreatDoor
open Go.RowKit

/-- What the checks leave of a plan. -/
structure OkPlan (its : List PItem) : Prop where
  len : its.length ≤ 12
  can : ∀ it ∈ its, CanI it
  clen : ∀ it ∈ its, it.cols.length ≤ 3
  rlen : ∀ it ∈ its, it.rules.length ≤ 8
  num : ∀ it ∈ its, ∀ r ∈ it.rules, -1000000 ≤ r.num ∧ r.num ≤ 1000000
  width : ∀ it ∈ its, ∀ r ∈ it.rules, r.tests.length = it.cols.length
  ahead : ∀ (j : Nat) (h : j < its.length), ∀ c ∈ its[j].cols, ∃ i : Nat, placeP its c = (i : Int) ∧ i < j
  names : ∀ (j : Nat) (h : j < its.length), placeP its its[j].name = (j : Int)
  lims : ∀ it ∈ its, ∀ r ∈ it.rules, ∀ t ∈ r.tests, -1000000 ≤ t.low ∧ -1000000 ≤ t.high

theorem sameName_iff (x y : ByteArray) : sameName x y = true ↔ x = y := by
  unfold sameName
  rw [ByteArray.toList_eq, ByteArray.toList_eq]
  constructor
  · intro h
    have h2 : x.data.toList = y.data.toList := by simpa using h
    exact ByteArray.ext (Array.toList_inj.1 h2)
  · intro h; subst h; simp
theorem placeP_take {its : List PItem} {nm : ByteArray} {j i : Nat} (h : placeP (its.take j) nm = (i : Int)) : placeP its nm = (i : Int) ∧ i < j := by
  unfold placeP at h
  cases h2 : (its.take j).findIdx? (fun it => sameName it.name nm) with
  | none => rw [h2] at h; simp at h
  | some k =>
    rw [h2] at h
    simp only [Int.natCast_inj] at h
    subst h
    rw [List.findIdx?_eq_some_iff_getElem] at h2
    obtain ⟨hl, hp, hq⟩ := h2
    have hl' : k < j ∧ k < its.length := by simp at hl; omega
    refine ⟨?_, hl'.1⟩
    have : its.findIdx? (fun it => sameName it.name nm) = some k := by
      rw [List.findIdx?_eq_some_iff_getElem]
      refine ⟨hl'.2, by simpa using hp, fun m hm => ?_⟩
      have := hq m hm
      simpa using this
    unfold placeP
    rw [this]
theorem placeP_self {its : List PItem} {j : Nat} (h : j < its.length) (hn : namedP (its.take j) its[j].name = false) : placeP its its[j].name = (j : Int) := by
  have : its.findIdx? (fun it => sameName it.name its[j].name) = some j := by
    rw [List.findIdx?_eq_some_iff_getElem]
    refine ⟨h, (sameName_iff _ _).2 rfl, fun m hm => ?_⟩
    unfold namedP at hn
    rw [List.any_eq_false] at hn
    have := hn its[m] (List.mem_take_iff_getElem.2 ⟨m, by omega, rfl⟩)
    simpa using this
  unfold placeP
  rw [this]
theorem checkL_ok : ∀ (rest ahead : List PItem), (checkL ahead rest).2 = 0 → ∀ (j : Nat) (h : j < rest.length), checkItemP rest[j] (ahead ++ rest.take j) = 0
  | [], ahead, _, j, h => by simp at h
  | it :: rest, ahead, hc, j, h => by
    rw [checkL] at hc
    split at hc
    · rename_i h0
      cases j with
      | zero => simpa using h0
      | succ j =>
        have := checkL_ok rest (ahead ++ [it]) hc j (by simpa using h)
        simpa using this
    · rename_i h0
      exact absurd hc h0
theorem planOf_ok {s : ByteArray} {its : List PItem} (h : planOf s = .inr its) : OkPlan its := by
  unfold planOf at h
  split at h
  · cases h
  split at h
  · cases h
  rename_i its' hp
  split at h
  · rename_i h0
    simp only [Sum.inr.injEq] at h
    subst h
    have hcan := planR_can hp
    unfold checkR at h0
    split at h0
    · simp at h0
    rename_i hb
    have hb' : beyondB its' = false := by simpa using hb
    unfold beyondB at hb'
    rw [Bool.or_eq_false_iff] at hb'
    have hi : ∀ it ∈ its', itemBeyond it = false := fun it hi => by
      have := hb'.2
      rw [List.any_eq_false] at this
      simpa using this it hi
    have hck := checkL_ok its' [] h0
    simp only [List.nil_append] at hck
    have hstep : ∀ (j : Nat) (h : j < its'.length), namedP (its'.take j) its'[j].name = false ∧ (∀ c ∈ its'[j].cols, namedP (its'.take j) c = true) ∧ ∀ r ∈ its'[j].rules, r.tests.length = its'[j].cols.length := fun j h => by
      have h1 := hck j h
      unfold checkItemP at h1
      split at h1
      · simp at h1
      rename_i a1
      split at h1
      · simp at h1
      rename_i a2
      split at h1
      · simp at h1
      rename_i a3
      refine ⟨by simpa using a1, fun c hc => ?_, fun r hr => ?_⟩
      · have a2' := Bool.eq_false_iff.2 a2
        rw [List.any_eq_false] at a2'
        have := a2' c hc
        simpa using this
      · have a3' := Bool.eq_false_iff.2 a3
        rw [List.any_eq_false] at a3'
        have := a3' r hr
        simpa using this
    refine ⟨by have := hb'.1; simp at this; omega, hcan, fun it hi' => ?_, fun it hi' => ?_, fun it hi' r hr => ?_, fun it hi' r hr => ?_, fun j h c hc => ?_, fun j h => placeP_self h (hstep j h).1, fun it hi' r hr t ht => ?_⟩
    · have := hi it hi'
      unfold itemBeyond at this
      simp at this
      omega
    · have := hi it hi'
      unfold itemBeyond at this
      simp at this
      omega
    · have := hi it hi'
      unfold itemBeyond at this
      rw [Bool.or_eq_false_iff] at this
      have h3 := this.2
      rw [List.any_eq_false] at h3
      have h4 := h3 r hr
      unfold ruleBeyond numBeyond at h4
      simp at h4
      omega
    · obtain ⟨j, hj, rfl⟩ := List.mem_iff_getElem.1 hi'
      exact (hstep j hj).2.2 r hr
    · obtain ⟨i, h1, h2⟩ := placeP_in ((hstep j h).2.1 c hc)
      exact ⟨i, placeP_take h1⟩
    · have := hi it hi'
      unfold itemBeyond at this
      rw [Bool.or_eq_false_iff] at this
      have h3 := this.2
      rw [List.any_eq_false] at h3
      have h4 := Bool.eq_false_iff.2 (h3 r hr)
      unfold ruleBeyond at h4
      rw [Bool.or_eq_false_iff] at h4
      have h5 := h4.2
      rw [List.any_eq_false] at h5
      have h6 := h5 t ht
      unfold testBeyond numBeyond at h6
      simp at h6
      omega
  · cases h
theorem OkPlan.marks {its : List PItem} (h : OkPlan its) : ∀ it ∈ its, it.marks ≤ 7 ∧ it.drops ≤ 7 := fun it hi => by
  rcases h.can it hi with hc | hc
  · exact ⟨hc.marks, by rw [hc.drops]; omega⟩
  · exact ⟨by rw [hc.marks]; omega, hc.drops⟩
theorem getD_snoc {α : Type} (l : List α) (x d : α) (i : Nat) : (l ++ [x]).getD i d = if i < l.length then l.getD i d else if i = l.length then x else d := by
  rw [List.getD_eq_getElem?_getD, List.getD_eq_getElem?_getD]
  split
  · rename_i h; rw [List.getElem?_append_left h]
  · split
    · rename_i h; subst h; simp
    · rw [List.getElem?_eq_none (by simp; omega)]; rfl
theorem labsTo_get {its : List PItem} {j i : Nat} (hj : j ≤ its.length) (hi : i < j) : (labsTo its j).getD i 0 = (labsP its).getD i 0 := by
  unfold labsP
  obtain ⟨m, hm⟩ : ∃ m, its.length = j + m := ⟨its.length - j, by omega⟩
  rw [hm]
  clear hm hj
  induction m with
  | zero => rfl
  | succ m ih =>
    rw [ih, ← Nat.add_assoc, labsTo, getD_snoc, labsTo_len, if_pos (by omega)]
theorem resTo_get {its : List PItem} {vals : List Int} {j i : Nat} (d : PVal × List Nat) (hj : j ≤ its.length) (hi : i < j) : (resTo its vals j).getD i d = (resP its vals).getD i d := by
  unfold resP
  obtain ⟨m, hm⟩ : ∃ m, its.length = j + m := ⟨its.length - j, by omega⟩
  rw [hm]
  clear hm hj
  induction m with
  | zero => rfl
  | succ m ih =>
    rw [ih, ← Nat.add_assoc, resTo, getD_snoc, resTo_len, if_pos (by omega)]
theorem labsP_at {its : List PItem} {j : Nat} (h : j < its.length) : (labsP its).getD j 0 = lab1 its (labsTo its j) its[j] := by
  rw [← labsTo_get (j := j + 1) (by omega) (by omega), labsTo_succ h, getD_snoc, labsTo_len, if_neg (by omega), if_pos rfl]
theorem resP_at {its : List PItem} {vals : List Int} {j : Nat} (h : j < its.length) : (resP its vals).getD j (PVal.zero, []) = if its[j].isT then tableP its[j] (colVals its ((resTo its vals j).map Prod.fst) its[j]) else (⟨0, vals.getD (inputsTo its j) 0⟩, []) := by
  rw [← resTo_get (j := j + 1) _ (by omega) (by omega), resTo_succ vals h, getD_snoc, resTo_len, if_neg (by omega), if_pos rfl]
theorem map_getD (l : List (PVal × List Nat)) (i : Nat) : (l.map Prod.fst).getD i PVal.zero = (l.getD i (PVal.zero, [])).1 := by
  rw [List.getD_eq_getElem?_getD, List.getD_eq_getElem?_getD, List.getElem?_map]
  cases l[i]? <;> rfl
/-- The columns' values, by the results of all. -/
theorem colVals_at {its : List PItem} (ok : OkPlan its) (vals : List Int) {j : Nat} (h : j < its.length) : colVals its ((resTo its vals j).map Prod.fst) its[j] = its[j].cols.map fun c => ((resP its vals).getD (placeP its c).toNat (PVal.zero, [])).1 := by
  unfold colVals
  refine List.map_congr_left fun c hc => ?_
  obtain ⟨i, h1, h2⟩ := ok.ahead j h c hc
  rw [map_getD, h1, Int.toNat_natCast, resTo_get _ (by omega) h2]
theorem colLab_seen (its : List PItem) (ls : List Nat) (clear : Nat) (hc : clear ≤ 7) (hl : ∀ x ∈ ls, x ≤ 7) : ∀ (cs : List ByteArray) (m : Nat), m ≤ 7 → seenB (colLab its ls cs m) clear = true → seenB m clear = true ∧ ∀ c ∈ cs, seenB (ls.getD (placeP its c).toNat 0) clear = true
  | [], m, hm, h => ⟨h, by simp⟩
  | c :: cs, m, hm, h => by
    have h2 : ls.getD (placeP its c).toNat 0 ≤ 7 := by
      rw [List.getD_eq_getElem?_getD]
      cases hq : ls[(placeP its c).toNat]? with
      | none => simp
      | some y => exact hl y (List.mem_of_getElem? hq)
    have h3 := Nat.or_lt_two_pow (x := m) (y := ls.getD (placeP its c).toNat 0) (n := 3) (by omega) (by omega)
    have h4 := colLab_seen its ls clear hc hl cs (m ||| ls.getD (placeP its c).toNat 0) (by omega) (by unfold colLab at h ⊢; rw [List.foldl_cons] at h; exact h)
    have h5 := seenB_or hm h2 hc h4.1
    refine ⟨h5.1, fun x hx => ?_⟩
    rcases List.mem_cons.1 hx with rfl | hx
    · exact h5.2
    · exact h4.2 x hx
theorem and_seven {a : Nat} (h : a ≤ 7) : a &&& (7 - 0) = a := by
  have key : ∀ a : Fin 8, a.val &&& (7 - 0) = a.val := by decide
  exact key ⟨a, by omega⟩
/-- Who may know a table that drops nothing may know its columns. -/
theorem cols_seen {its : List PItem} (ok : OkPlan its) {clear : Nat} (hc : clear ≤ 7) {j : Nat} (h : j < its.length) (hd : its[j].drops = 0) (hs : seenB ((labsP its).getD j 0) clear = true) : ∀ c ∈ its[j].cols, ∃ i : Nat, placeP its c = (i : Int) ∧ i < j ∧ seenB ((labsP its).getD i 0) clear = true := fun c hcm => by
  obtain ⟨i, h1, h2⟩ := ok.ahead j h c hcm
  refine ⟨i, h1, h2, ?_⟩
  have hm := (ok.marks its[j] (List.getElem_mem h)).1
  have hle := labsTo_le (fun it hi => (ok.marks it hi).1) j
  rw [labsP_at h, lab1, hd, and_seven (colLab_le _ _ hle _ _ hm)] at hs
  have := (colLab_seen its (labsTo its j) clear hc hle _ _ hm hs).2 c hcm
  rw [h1, Int.toNat_natCast, labsTo_get (by omega) h2] at this
  exact this
/-- Who may not know some inputs learns nothing of them. -/
theorem curtain_vals {its : List PItem} (ok : OkPlan its) {clear : Nat} (hc : clear ≤ 7) {v w : List Int}
    (hin : ∀ (j : Nat) (h : j < its.length), its[j].isT = false → seenB ((labsP its).getD j 0) clear = true → v.getD (inputsTo its j) 0 = w.getD (inputsTo its j) 0)
    (htab : ∀ (j : Nat) (h : j < its.length), its[j].isT = true → its[j].drops ≠ 0 → seenB ((labsP its).getD j 0) clear = true → ((resP its v).getD j (PVal.zero, [])).1 = ((resP its w).getD j (PVal.zero, [])).1) :
    ∀ (m j : Nat) (h : j < its.length), j < m → seenB ((labsP its).getD j 0) clear = true → ((resP its v).getD j (PVal.zero, [])).1 = ((resP its w).getD j (PVal.zero, [])).1 ∧ (its[j].drops = 0 → (resP its v).getD j (PVal.zero, []) = (resP its w).getD j (PVal.zero, []))
  | 0, j, h, hj, _ => by omega
  | m + 1, j, h, hj, hs => by
    cases hT : its[j].isT with
    | false =>
      rw [resP_at h, resP_at h, hT, if_neg (by simp), if_neg (by simp), hin j h hT hs]
      exact ⟨rfl, fun _ => rfl⟩
    | true =>
      by_cases hd : its[j].drops = 0
      · have : (resP its v).getD j (PVal.zero, []) = (resP its w).getD j (PVal.zero, []) := by
          rw [resP_at h, resP_at h, colVals_at ok v h, colVals_at ok w h, hT, if_pos rfl, if_pos rfl]
          congr 1
          refine List.map_congr_left fun c hcm => ?_
          obtain ⟨i, h1, h2, h3⟩ := cols_seen ok hc h hd hs c hcm
          rw [h1, Int.toNat_natCast]
          exact (curtain_vals ok hc hin htab m i (by omega) (by omega) h3).1
        exact ⟨by rw [this], fun _ => this⟩
      · exact ⟨htab j h hT hd hs, fun h0 => absurd h0 hd⟩
theorem getD_at {α : Type} (l : List α) (d : α) {j : Nat} (h : j < l.length) : l.getD j d = l[j] := by
  rw [List.getD_eq_getElem?_getD, List.getElem?_eq_getElem h]; rfl
theorem curtain_told {its : List PItem} (ok : OkPlan its) {clear : Nat} (hc : clear ≤ 7) {v w : List Int}
    (hin : ∀ (j : Nat) (h : j < its.length), its[j].isT = false → seenB ((labsP its).getD j 0) clear = true → v.getD (inputsTo its j) 0 = w.getD (inputsTo its j) 0)
    (htab : ∀ (j : Nat) (h : j < its.length), its[j].isT = true → its[j].drops ≠ 0 → seenB ((labsP its).getD j 0) clear = true → ((resP its v).getD j (PVal.zero, [])).1 = ((resP its w).getD j (PVal.zero, [])).1) :
    explainP its clear v = explainP its clear w := by
  have key : ∀ j, j ≤ its.length → toldTo its (labsP its) (resP its v) clear j = toldTo its (labsP its) (resP its w) clear j := by
    intro j
    induction j with
    | zero => intro _; rfl
    | succ j ih =>
      intro hj
      rw [toldTo, toldTo, ih (by omega)]
      congr 1
      unfold lineOut
      cases hs : seenB ((labsP its).getD j 0) clear with
      | false => rfl
      | true =>
        obtain ⟨h1, h2⟩ := curtain_vals ok hc hin htab (j + 1) j (by omega) (by omega) hs
        rw [getD_at its noItem (by omega)]
        simp only [if_true]
        congr 2
        unfold knownOut
        by_cases hd : its[j].drops = 0
        · rw [h2 hd]
        · rw [h1]
          simp [hd]
  exact key _ (Nat.le_refl _)
end Go.Proofs.YthnggjaecngbiaaGreatDoor
