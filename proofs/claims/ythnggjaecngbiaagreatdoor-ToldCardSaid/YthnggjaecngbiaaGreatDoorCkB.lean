import Derived.Test.YthnggjaecngbiaaGreatDoorCkA
namespace Go.Proofs.YthnggjaecngbiaaGreatDoor
open Go.RowKit

set_option maxHeartbeats 400000 in
theorem ruleBeyond_any (ao : Option Addr) (cap : Nat) (ts : List PTest) (num : Int) (w : World) (hv : SlAt w 4 (.slice ao ts.length cap) ts.length (tsCells ts)) (hl : ts.length ≤ 100000) :
    Calls Tryz.prog 156 #[.agg #[.slice ao ts.length cap, .int .i64 num]] w fun e w' => e = .returned (.bool (ruleBeyond ⟨ts, num⟩)) ∧ Below w.heap.size w w' := by
  have HV := hide (hv.below ((Below.refl _ w).alloc (Nat.le_refl _) (.cells #[.slice ao ts.length cap, .int .i64 num] 160)))
  clear hv
  simp only [ruleBeyond]
  cases h1 : numBeyond num with
  | true =>
    have H1 := hide h1
    clear h1
    go_enter Tryz.func156, Tryz.ntmps156
    go_wp2_with (go_at_call 68; refine (numBeyond_any _ _).mono ?_; rintro e w1 ⟨rfl, rfl⟩; rw [unhide H1])
    go_ret
    exact ⟨rfl, (Below.refl _ _).alloc (Nat.le_refl _) _⟩
  | false =>
    have H1 := hide h1
    clear h1
    go_enter Tryz.func156, Tryz.ntmps156
    go_wp2_with fail
    refine (numBeyond_any _ _).mono ?_
    rintro e w1 ⟨rfl, rfl⟩
    rw [unhide H1]
    go_wp2_with fail
    refine (containsTests_any _ _ _ (unhide HV) hl).mono ?_
    rintro e w1 ⟨rfl, hb⟩
    have HB := hide hb
    clear hb
    go_wp2
    go_ret
    exact ⟨rfl, below_after ((Below.refl _ _).alloc (Nat.le_refl _) _) (unhide HB)⟩

def zcells (y : Value × PRule) : List Value := [y.1, .int .i64 y.2.num]
theorem rcells_z (vs : List Value) (rs : List PRule) : rcells vs rs = (vs.zip rs).flatMap zcells := rfl

set_option maxRecDepth 100000 in
set_option maxHeartbeats 1600000 in
theorem indexRules_any (v : Value) (zs : List (Value × PRule)) (w : World) (hv : SlAt w 2 v zs.length (zs.flatMap zcells)) (ht : ∀ y ∈ zs, SlAt w 4 y.1 y.2.tests.length (tsCells y.2.tests) ∧ y.2.tests.length ≤ 100000) (hl : zs.length ≤ 100000) :
    Calls Tryz.prog 178 #[v, .func (.func 156) #[] #[]] w fun e w' => (∃ n : Int, e = .returned (.int .i64 n) ∧ zs.any (fun y => ruleBeyond y.2) = decide (0 ≤ n)) ∧ Below w.heap.size w w' := by
  obtain ⟨ao, cap, rfl⟩ := hv.form
  have HV := hide hv
  clear hv
  go_enter Tryz.func178, Tryz.ntmps178
  go_wp2_with fail
  go_loopg [8] zs.length (fun g i wr => ∃ j : Nat, j ≤ zs.length ∧ g = zs.length - j ∧ i = .int .i64 (j : Int) ∧ (zs.take j).any (fun y => ruleBeyond y.2) = false ∧ Below w.heap.size w wr)
  case atStart => exact ⟨0, by omega, rfl, rfl, by simp, Below.refl _ _⟩
  case round =>
    obtain ⟨j, hj, hg, rfl, hno, hb⟩ := hrel
    have A : Aside (gk = zs.length - j ∧ (zs.take j).any (fun y => ruleBeyond y.2) = false ∧ Below w.heap.size w wr) := ⟨hg, hno, hb⟩
    clear hg hno
    by_cases hlt : j < zs.length
    · rcases unhide HV with ⟨h0, _⟩ | ⟨g, cap', hv, hc, hm, hgl, hx⟩
      · omega
      simp only [Value.slice.injEq] at hv
      obtain ⟨rfl, _, rfl⟩ := hv
      have key : ∀ i, i < 2 → wr.cell? ⟨g, j * 2 + i, none⟩ = (zcells zs[j])[i]? := fun i hi => by
        rw [hb.cell (p := ⟨g, j * 2 + i, none⟩) hgl, hx _ (by omega)]
        exact flat_at zcells 2 (fun _ => rfl) zs j i hlt hi
      have k0 := key 0 (by omega)
      have k1 := key 1 (by omega)
      have HT := hide (any_take_succ (fun y => ruleBeyond y.2) zs j hlt)
      simp only [zcells, List.getElem?_cons_zero, List.getElem?_cons_succ, Nat.add_zero] at k0 k1
      have hjc : (j : Int) < zs.length := by omega
      have hy := ht zs[j] (List.getElem_mem hlt)
      have hyb := hy.1.below hb
      have hyl := hy.2
      clear hy
      generalize zs[j] = y at *
      obtain ⟨yv, yts, ynum⟩ := y
      simp only at k0 k1 hyb hyl
      obtain ⟨yo, yc, rfl⟩ := hyb.form
      have HY := hide hyb
      clear hyb
      clear key hx hb hc hm hgl
      cases hp : ruleBeyond ⟨yts, ynum⟩ with
      | true =>
        have HP := hide hp
        clear hp
        go_wp2_with (go_at_call 156; refine (ruleBeyond_any _ _ _ _ _ (by exact unhide HY) hyl).mono ?_; rintro e w1 ⟨rfl, hb1⟩; rw [unhide HP]; have HB := hide (below_after A.out.2.2 hb1); clear hb1)
        go_ret
        refine ⟨⟨_, rfl, ?_⟩, unhide HB⟩
        rw [any_of_take (j := j + 1) (by rw [unhide HT, A.out.2.1, Bool.false_or]; exact unhide HP)]
        simp
      | false =>
        have HP := hide hp
        clear hp
        go_wp2_with (go_at_call 156; refine (ruleBeyond_any _ _ _ _ _ (by exact unhide HY) hyl).mono ?_; rintro e w1 ⟨rfl, hb1⟩; rw [unhide HP]; have HB := hide (below_after A.out.2.2 hb1); clear hb1)
        go_roundg (zs.length - (j + 1))
        case measure => have := A.out.1; omega
        case rel => exact ⟨j + 1, by omega, rfl, by go_num, by rw [unhide HT, A.out.2.1, Bool.false_or]; exact unhide HP, unhide HB⟩
    · have hje : j = zs.length := by omega
      have HJ := hide hje
      have hjc : ¬ (j : Int) < zs.length := by omega
      clear hje hb
      go_wp2
      go_ret
      refine ⟨⟨_, rfl, ?_⟩, A.out.2.2⟩
      have := A.out.2.1
      rw [unhide HJ, List.take_length] at this
      rw [this]
      rfl

set_option maxHeartbeats 400000 in
theorem containsRules_any (v : Value) (zs : List (Value × PRule)) (w : World) (hv : SlAt w 2 v zs.length (zs.flatMap zcells)) (ht : ∀ y ∈ zs, SlAt w 4 y.1 y.2.tests.length (tsCells y.2.tests) ∧ y.2.tests.length ≤ 100000) (hl : zs.length ≤ 100000) :
    Calls Tryz.prog 155 #[v, .func (.func 156) #[] #[]] w fun e w' => e = .returned (.bool (zs.any (fun y => ruleBeyond y.2))) ∧ Below w.heap.size w w' := by
  have HV := hide hv
  clear hv
  go_enter Tryz.func155, Tryz.ntmps155
  go_wp2_with fail
  refine (indexRules_any _ _ _ (unhide HV) ht hl).mono ?_
  rintro e w1 ⟨⟨n, rfl, hn⟩, hb⟩
  have HB := hide hb
  have HN := hide hn
  clear hb hn
  go_wp2
  go_ret
  exact ⟨ret_bool (unhide HN).symm, unhide HB⟩

end Go.Proofs.YthnggjaecngbiaaGreatDoor

namespace Go.Proofs.YthnggjaecngbiaaGreatDoor
open Go.RowKit

/-- No list of an item is too long to be counted. -/
def SmallI (it : PItem) : Prop := it.cols.length ≤ 100000 ∧ it.rules.length ≤ 100000 ∧ ∀ r ∈ it.rules, r.tests.length ≤ 100000

theorem zip_any (vs : List Value) : ∀ (rs : List PRule) (p : PRule → Bool), vs.length = rs.length → (vs.zip rs).any (fun y => p y.2) = rs.any p := by
  induction vs with
  | nil => intro rs p h; cases rs with
    | nil => rfl
    | cons r rs => simp at h
  | cons v vs ih => intro rs p h; cases rs with
    | nil => simp at h
    | cons r rs => simp only [List.zip_cons_cons, List.any_cons]; rw [ih rs p (by simpa using h)]

set_option maxRecDepth 100000 in
set_option maxHeartbeats 1600000 in
theorem itemBeyond_any (x : LItem) (w : World) (hv : ItemV w x) (hl : SmallI x.it) :
    Calls Tryz.prog 125 #[iv x.it x.cv x.rv] w fun e w' => e = .returned (.bool (itemBeyond x.it)) ∧ Below w.heap.size w w' := by
  obtain ⟨it, cv, rv0, vs⟩ := x
  obtain ⟨co, cc, hcv⟩ := hv.1.form
  obtain ⟨ro, rc, hrv⟩ := hv.2.2.1.form
  simp only at hcv hrv
  subst hcv hrv
  have hv2 := hv.below ((Below.refl _ w).alloc (Nat.le_refl _) (.cells (icells it (.slice co it.cols.length cc) (.slice ro it.rules.length rc)) 119))
  have HV := hide hv2
  obtain ⟨hl1, hl2, hl3⟩ := hl
  simp only at hl1 hl2 hl3
  have HL := hide hl3
  clear hv hv2 hl3
  simp only [iv, icells, itemBeyond]
  cases h1 : decide (3 < it.cols.length) with
  | true =>
    have h1b : decide ((3 : Int) < it.cols.length) = true := by simp at h1 ⊢; omega
    clear h1
    go_enter Tryz.func125, Tryz.ntmps125
    go_wp2_with fail
    go_ret
    exact ⟨rfl, (Below.refl _ _).alloc (Nat.le_refl _) _⟩
  | false =>
    have h1b : decide ((3 : Int) < it.cols.length) = false := by simp at h1 ⊢; omega
    clear h1
    cases h2 : decide (8 < it.rules.length) with
    | true =>
      have h2b : decide ((8 : Int) < it.rules.length) = true := by simp at h2 ⊢; omega
      clear h2
      go_enter Tryz.func125, Tryz.ntmps125
      go_wp2_with fail
      go_ret
      exact ⟨rfl, (Below.refl _ _).alloc (Nat.le_refl _) _⟩
    | false =>
      have h2b : decide ((8 : Int) < it.rules.length) = false := by simp at h2 ⊢; omega
      clear h2
      go_enter Tryz.func125, Tryz.ntmps125
      go_wp2_with fail
      have hz : (vs.zip it.rules).length = it.rules.length := by have := (unhide HV).2.1; simp at this ⊢; omega
      refine (containsRules_any _ (vs.zip it.rules) _ (by rw [hz]; exact (unhide HV).2.2.1) (fun y hy => ⟨(unhide HV).2.2.2 y hy, HL.out y.2 (List.of_mem_zip hy).2⟩) (by omega)).mono ?_
      rintro e w1 ⟨rfl, hb⟩
      rw [zip_any vs it.rules ruleBeyond (unhide HV).2.1]
      have HB := hide hb
      clear hb hz
      go_wp2
      go_ret
      exact ⟨rfl, below_after ((Below.refl _ _).alloc (Nat.le_refl _) _) (unhide HB)⟩

set_option maxRecDepth 100000 in
set_option maxHeartbeats 1600000 in
theorem indexBeyond_any (v : Value) (xs : List LItem) (w : World) (hv : SlAt w 7 v xs.length (xs.flatMap itCells)) (ht : ∀ x ∈ xs, ItemV w x ∧ SmallI x.it) (hl : xs.length ≤ 100000) :
    Calls Tryz.prog 72 #[v, .func (.func 125) #[] #[]] w fun e w' => (∃ n : Int, e = .returned (.int .i64 n) ∧ xs.any (fun x => itemBeyond x.it) = decide (0 ≤ n)) ∧ Below w.heap.size w w' := by
  obtain ⟨ao, cap, rfl⟩ := hv.form
  have HV := hide hv
  clear hv
  go_enter Tryz.func72, Tryz.ntmps72
  go_wp2_with fail
  go_loopg [8] xs.length (fun g i wr => ∃ j : Nat, j ≤ xs.length ∧ g = xs.length - j ∧ i = .int .i64 (j : Int) ∧ (xs.take j).any (fun x => itemBeyond x.it) = false ∧ Below w.heap.size w wr)
  case atStart => exact ⟨0, by omega, rfl, rfl, by simp, Below.refl _ _⟩
  case round =>
    obtain ⟨j, hj, hg, rfl, hno, hb⟩ := hrel
    have A : Aside (gk = xs.length - j ∧ (xs.take j).any (fun x => itemBeyond x.it) = false ∧ Below w.heap.size w wr) := ⟨hg, hno, hb⟩
    clear hg hno
    by_cases hlt : j < xs.length
    · rcases unhide HV with ⟨h0, _⟩ | ⟨g, cap', hv, hc, hm, hgl, hx⟩
      · omega
      simp only [Value.slice.injEq] at hv
      obtain ⟨rfl, _, rfl⟩ := hv
      have key : ∀ i, i < 7 → wr.cell? ⟨g, j * 7 + i, none⟩ = (itCells xs[j])[i]? := fun i hi => by
        rw [hb.cell (p := ⟨g, j * 7 + i, none⟩) hgl, hx _ (by omega)]
        exact flat_at itCells 7 (fun _ => rfl) xs j i hlt hi
      have k0 := key 0 (by omega)
      have k1 := key 1 (by omega)
      have k2 := key 2 (by omega)
      have k3 := key 3 (by omega)
      have k4 := key 4 (by omega)
      have k5 := key 5 (by omega)
      have k6 := key 6 (by omega)
      have HT := hide (any_take_succ (fun x => itemBeyond x.it) xs j hlt)
      simp only [itCells, icells, List.getElem?_cons_zero, List.getElem?_cons_succ, Nat.add_zero] at k0 k1 k2 k3 k4 k5 k6
      have hjc : (j : Int) < xs.length := by omega
      have hy := ht xs[j] (List.getElem_mem hlt)
      have hyb := hy.1.below hb
      have hyl := hy.2
      clear hy
      generalize xs[j] = x at *
      have HY := hide hyb
      have HL := hide hyl
      clear hyb hyl
      clear key hx hb hc hm hgl
      cases hp : itemBeyond x.it with
      | true =>
        have HP := hide hp
        clear hp
        go_wp2_with (go_at_call 125; refine (itemBeyond_any x _ (by exact unhide HY) (unhide HL)).mono ?_; rintro e w1 ⟨rfl, hb1⟩; rw [unhide HP]; have HB := hide (below_after A.out.2.2 hb1); clear hb1)
        go_ret
        refine ⟨⟨_, rfl, ?_⟩, unhide HB⟩
        rw [any_of_take (j := j + 1) (by rw [unhide HT, A.out.2.1, Bool.false_or]; exact unhide HP)]
        simp
      | false =>
        have HP := hide hp
        clear hp
        go_wp2_with (go_at_call 125; refine (itemBeyond_any x _ (by exact unhide HY) (unhide HL)).mono ?_; rintro e w1 ⟨rfl, hb1⟩; rw [unhide HP]; have HB := hide (below_after A.out.2.2 hb1); clear hb1)
        go_roundg (xs.length - (j + 1))
        case measure => have := A.out.1; omega
        case rel => exact ⟨j + 1, by omega, rfl, by go_num, by rw [unhide HT, A.out.2.1, Bool.false_or]; exact unhide HP, unhide HB⟩
    · have hje : j = xs.length := by omega
      have HJ := hide hje
      have hjc : ¬ (j : Int) < xs.length := by omega
      clear hje hb
      go_wp2
      go_ret
      refine ⟨⟨_, rfl, ?_⟩, A.out.2.2⟩
      have := A.out.2.1
      rw [unhide HJ, List.take_length] at this
      rw [this]
      rfl

set_option maxHeartbeats 400000 in
theorem containsBeyond_any (v : Value) (xs : List LItem) (w : World) (hv : SlAt w 7 v xs.length (xs.flatMap itCells)) (ht : ∀ x ∈ xs, ItemV w x ∧ SmallI x.it) (hl : xs.length ≤ 100000) :
    Calls Tryz.prog 124 #[v, .func (.func 125) #[] #[]] w fun e w' => e = .returned (.bool (xs.any (fun x => itemBeyond x.it))) ∧ Below w.heap.size w w' := by
  have HV := hide hv
  clear hv
  go_enter Tryz.func124, Tryz.ntmps124
  go_wp2_with fail
  refine (indexBeyond_any _ _ _ (unhide HV) ht hl).mono ?_
  rintro e w1 ⟨⟨n, rfl, hn⟩, hb⟩
  have HB := hide hb
  have HN := hide hn
  clear hb hn
  go_wp2
  go_ret
  exact ⟨ret_bool (unhide HN).symm, unhide HB⟩

end Go.Proofs.YthnggjaecngbiaaGreatDoor

namespace Go.Proofs.YthnggjaecngbiaaGreatDoor
open Go.RowKit

def sameName (x y : ByteArray) : Bool := x.toList == y.toList

/-- Where the item of a name is, or -1. -/
def placeP (its : List PItem) (nm : ByteArray) : Int :=
  match its.findIdx? (fun it => sameName it.name nm) with
  | some i => (i : Int)
  | none => -1
theorem placeP_hit {xs : List LItem} {nm : ByteArray} {j : Nat} (h : j < xs.length) (hno : (xs.take j).any (fun x => sameName x.it.name nm) = false) (hp : sameName xs[j].it.name nm = true) : placeP (xs.map LItem.it) nm = (j : Int) := by
  have : (xs.map LItem.it).findIdx? (fun it => sameName it.name nm) = some j := by
    rw [List.findIdx?_eq_some_iff_getElem]
    refine ⟨by simpa using h, by simpa using hp, fun k hk => ?_⟩
    rw [List.any_eq_false] at hno
    have h3 : k < xs.length := by omega
    have := hno xs[k] (List.mem_take_iff_getElem.2 ⟨k, by omega, rfl⟩)
    simpa using this
  unfold placeP
  rw [this]
theorem placeP_miss {xs : List LItem} {nm : ByteArray} (hno : xs.any (fun x => sameName x.it.name nm) = false) : placeP (xs.map LItem.it) nm = -1 := by
  have : (xs.map LItem.it).findIdx? (fun it => sameName it.name nm) = none := by
    rw [List.findIdx?_eq_none_iff]
    rw [List.any_eq_false] at hno
    intro x hx
    rw [List.mem_map] at hx
    obtain ⟨y, hy, rfl⟩ := hx
    simpa using hno y hy
  unfold placeP
  rw [this]

set_option maxRecDepth 100000 in
set_option maxHeartbeats 1600000 in
theorem named1_any (x : LItem) (B : Nat) (nm : ByteArray) (w : World) (hB : w.cell? ⟨B, 0, none⟩ = some (.string nm)) (hBl : B < w.heap.size) (hcv : ∃ ao n cap, x.cv = .slice ao n cap) (hrv : ∃ ao n cap, x.rv = .slice ao n cap) :
    Calls Tryz.prog 73 #[iv x.it x.cv x.rv, .pointer (some ⟨B, 0, none⟩)] w fun e w' => e = .returned (.bool (sameName x.it.name nm)) ∧ Below w.heap.size w w' := by
  obtain ⟨it, cv, rv0, vs⟩ := x
  obtain ⟨co, cn, cc, rfl⟩ := hcv
  obtain ⟨ro, rn, rc, rfl⟩ := hrv
  simp only [iv, icells]
  go_enter Tryz.func73, Tryz.ntmps73
  go_wp2
  go_ret
  exact ⟨rfl, (Below.refl _ _).alloc (Nat.le_refl _) _⟩

set_option maxRecDepth 100000 in
set_option maxHeartbeats 1600000 in
theorem indexNamed_any (v : Value) (xs : List LItem) (B : Nat) (nm : ByteArray) (w : World) (hv : SlAt w 7 v xs.length (xs.flatMap itCells)) (ht : ∀ x ∈ xs, ItemV w x) (hB : w.cell? ⟨B, 0, none⟩ = some (.string nm)) (hBl : B < w.heap.size) (hl : xs.length ≤ 100000) :
    Calls Tryz.prog 72 #[v, .func (.func 73) #[] #[.pointer (some ⟨B, 0, none⟩)]] w fun e w' => e = .returned (.int .i64 (placeP (xs.map LItem.it) nm)) ∧ Below w.heap.size w w' := by
  obtain ⟨ao, cap, rfl⟩ := hv.form
  have HV := hide hv
  clear hv
  go_enter Tryz.func72, Tryz.ntmps72
  go_wp2_with fail
  go_loopg [8] xs.length (fun g i wr => ∃ j : Nat, j ≤ xs.length ∧ g = xs.length - j ∧ i = .int .i64 (j : Int) ∧ (xs.take j).any (fun x => sameName x.it.name nm) = false ∧ Below w.heap.size w wr)
  case atStart => exact ⟨0, by omega, rfl, rfl, by simp, Below.refl _ _⟩
  case round =>
    obtain ⟨j, hj, hg, rfl, hno, hb⟩ := hrel
    have A : Aside (gk = xs.length - j ∧ (xs.take j).any (fun x => sameName x.it.name nm) = false ∧ Below w.heap.size w wr) := ⟨hg, hno, hb⟩
    clear hg hno
    by_cases hlt : j < xs.length
    · rcases unhide HV with ⟨h0, _⟩ | ⟨g, cap', hv, hc, hm, hgl, hx⟩
      · omega
      simp only [Value.slice.injEq] at hv
      obtain ⟨rfl, _, rfl⟩ := hv
      have key : ∀ i, i < 7 → wr.cell? ⟨g, j * 7 + i, none⟩ = (itCells xs[j])[i]? := fun i hi => by
        rw [hb.cell (p := ⟨g, j * 7 + i, none⟩) hgl, hx _ (by omega)]
        exact flat_at itCells 7 (fun _ => rfl) xs j i hlt hi
      have k0 := key 0 (by omega)
      have k1 := key 1 (by omega)
      have k2 := key 2 (by omega)
      have k3 := key 3 (by omega)
      have k4 := key 4 (by omega)
      have k5 := key 5 (by omega)
      have k6 := key 6 (by omega)
      have HT := hide (any_take_succ (fun x => sameName x.it.name nm) xs j hlt)
      simp only [itCells, icells, List.getElem?_cons_zero, List.getElem?_cons_succ, Nat.add_zero] at k0 k1 k2 k3 k4 k5 k6
      have hjc : (j : Int) < xs.length := by omega
      have HH := hide (fun hq : sameName xs[j].it.name nm = true => placeP_hit hlt A.out.2.1 hq)
      have hy := ht xs[j] (List.getElem_mem hlt)
      obtain ⟨co, cc, hcv⟩ := hy.1.form
      obtain ⟨ro, rc, hrv⟩ := hy.2.2.1.form
      clear hy
      have HBc := hide ((hb.cell (p := ⟨B, 0, none⟩) hBl).trans hB)
      have hBl' : B < wr.heap.size := Nat.lt_of_lt_of_le hBl hb.size
      generalize xs[j] = x at *
      have HC := hide hcv
      have HR := hide hrv
      clear hcv hrv
      clear key hx hb hc hm hgl
      cases hp : sameName x.it.name nm with
      | true =>
        have HP := hide hp
        clear hp
        go_wp2_with (go_at_call 73; refine (named1_any x B nm _ (by exact unhide HBc) hBl' ⟨_, _, _, unhide HC⟩ ⟨_, _, _, unhide HR⟩).mono ?_; rintro e w1 ⟨rfl, hb1⟩; rw [unhide HP]; have HB := hide (below_after A.out.2.2 hb1); clear hb1)
        go_ret
        refine ⟨?_, unhide HB⟩
        rw [unhide HH (unhide HP)]; rfl
      | false =>
        have HP := hide hp
        clear hp
        go_wp2_with (go_at_call 73; refine (named1_any x B nm _ (by exact unhide HBc) hBl' ⟨_, _, _, unhide HC⟩ ⟨_, _, _, unhide HR⟩).mono ?_; rintro e w1 ⟨rfl, hb1⟩; rw [unhide HP]; have HB := hide (below_after A.out.2.2 hb1); clear hb1)
        go_roundg (xs.length - (j + 1))
        case measure => have := A.out.1; omega
        case rel => exact ⟨j + 1, by omega, rfl, by go_num, by rw [unhide HT, A.out.2.1, Bool.false_or]; exact unhide HP, unhide HB⟩
    · have hje : j = xs.length := by omega
      have HJ := hide hje
      have hjc : ¬ (j : Int) < xs.length := by omega
      clear hje hb
      go_wp2
      go_ret
      refine ⟨?_, A.out.2.2⟩
      have := A.out.2.1
      rw [unhide HJ, List.take_length] at this
      rw [placeP_miss this]; rfl

def namedP (its : List PItem) (nm : ByteArray) : Bool := its.any fun it => sameName it.name nm

set_option maxHeartbeats 400000 in
theorem place_any (v : Value) (xs : List LItem) (nm : ByteArray) (w : World) (hv : ItemsV w v xs) (hl : xs.length ≤ 100000) :
    Calls Tryz.prog 46 #[v, .string nm] w fun e w' => e = .returned (.int .i64 (placeP (xs.map LItem.it) nm)) ∧ Below w.heap.size w w' := by
  have hmf : ∀ (fn : Fn) (first cap : Array Value) (w : World), (Instr.makeFunc fn first cap).run Tryz.prog w = .ok (.func fn first cap) w := fun _ _ _ _ => rfl
  have HV := hide (hv.below ((Below.refl _ w).alloc (Nat.le_refl _) (.cells #[.string nm] 9)))
  clear hv
  go_enter Tryz.func46, Tryz.ntmps46
  go_wp2_with fail
  refine (indexNamed_any _ xs w.heap.size nm _ (unhide HV).1 (unhide HV).2 (by simp) (by simp) hl).mono ?_
  rintro e w1 ⟨rfl, hb⟩
  have HB := hide hb
  clear hb
  go_wp2
  go_ret
  exact ⟨rfl, below_after ((Below.refl _ _).alloc (Nat.le_refl _) _) (unhide HB)⟩

theorem placeP_named (its : List PItem) (nm : ByteArray) : namedP its nm = decide (0 ≤ placeP its nm) := by
  unfold namedP placeP
  cases h : its.findIdx? (fun it => sameName it.name nm) with
  | none =>
    rw [List.findIdx?_eq_none_iff] at h
    simpa using h
  | some i =>
    obtain ⟨hl, hp, _⟩ := List.findIdx?_eq_some_iff_getElem.1 h
    have : its.any (fun it => sameName it.name nm) = true := List.any_eq_true.2 ⟨_, List.getElem_mem hl, hp⟩
    rw [this]
    simp
theorem placeP_in {its : List PItem} {nm : ByteArray} (h : namedP its nm = true) : ∃ i : Nat, placeP its nm = (i : Int) ∧ i < its.length := by
  rw [placeP_named] at h
  unfold placeP at h ⊢
  cases h2 : its.findIdx? (fun it => sameName it.name nm) with
  | none => rw [h2] at h; simp at h
  | some i => exact ⟨i, rfl, (List.findIdx?_eq_some_iff_getElem.1 h2).1⟩
theorem placeP_out {its : List PItem} {nm : ByteArray} (h : namedP its nm = false) : placeP its nm = -1 := by
  rw [placeP_named] at h
  unfold placeP at h ⊢
  cases h2 : its.findIdx? (fun it => sameName it.name nm) with
  | none => rfl
  | some i => rw [h2] at h; simp at h

set_option maxHeartbeats 400000 in
theorem beyond_any (v : Value) (xs : List LItem) (w : World) (hv : ItemsV w v xs) (hsm : ∀ x ∈ xs, SmallI x.it) (hl : xs.length ≤ 100000) :
    Calls Tryz.prog 91 #[v] w fun e w' => e = .returned (.bool (beyondB (xs.map LItem.it))) ∧ Below w.heap.size w w' := by
  obtain ⟨ao, cap, rfl⟩ := hv.1.form
  have HV := hide hv
  have HS := hide hsm
  clear hv hsm
  have hany : (xs.map LItem.it).any itemBeyond = xs.any (fun x => itemBeyond x.it) := by rw [List.any_map]; rfl
  have HY := hide hany
  clear hany
  unfold beyondB
  cases h1 : decide (12 < (xs.map LItem.it).length) with
  | true =>
    have h1b : decide ((12 : Int) < xs.length) = true := by simp at h1 ⊢; omega
    clear h1
    go_enter Tryz.func91, Tryz.ntmps91
    go_wp2_with fail
    go_ret
    exact ⟨rfl, Below.refl _ _⟩
  | false =>
    have h1b : decide ((12 : Int) < xs.length) = false := by simp at h1 ⊢; omega
    clear h1
    go_enter Tryz.func91, Tryz.ntmps91
    go_wp2_with fail
    refine (containsBeyond_any _ xs _ (unhide HV).1 (fun x hx => ⟨(unhide HV).2 x hx, unhide HS x hx⟩) hl).mono ?_
    rintro e w1 ⟨rfl, hb⟩
    have HB := hide hb
    clear hb
    go_wp2
    go_ret
    rw [unhide HY]
    exact ⟨rfl, unhide HB⟩

end Go.Proofs.YthnggjaecngbiaaGreatDoor

