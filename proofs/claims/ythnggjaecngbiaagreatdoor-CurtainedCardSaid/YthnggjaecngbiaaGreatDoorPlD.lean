import Derived.Test.YthnggjaecngbiaaGreatDoorPlC
namespace Go.Proofs.YthnggjaecngbiaaGreatDoor
open Go.RowKit

theorem marksOut_len (sign : Int) (m : Nat) : (marksOut sign m).length ≤ 4 := by
  unfold marksOut
  split
  · simp
  · have := markOut_len m 3
    simp; omega
theorem SlAt.below' {W w : World} {size : Nat} {v : Value} {n : Nat} {xs : List Value} (h : SlAt W size v n xs) (g : Below W.heap.size W w) : SlAt w size v n xs := h.below g

def joinOut (cols : List ByteArray) : List UInt8 := Lib.join (cols.map fun x => x.data.toList) [44]
theorem lens_le (cols : List ByteArray) (h : ∀ c ∈ cols, c.size ≤ 8) : Lib.lens (cols.map fun x => x.data.toList) ≤ cols.length * 8 := by
  induction cols with
  | nil => simp [Lib.lens]
  | cons c r ih =>
    have h1 := ih (fun x hx => h x (by simp [hx]))
    have h2 : c.data.toList.length ≤ 8 := by have := h c (by simp); simpa using this
    simp only [Lib.lens, List.map_cons, List.sum_cons, List.length_cons] at h1 ⊢
    omega
theorem joinOut_len {cols : List ByteArray} (hl : cols.length ≤ 1001) (h : ∀ c ∈ cols, c.size ≤ 8) : (joinOut cols).length ≤ 20000 := by
  unfold joinOut
  cases cols with
  | nil => simp [Lib.join_nil]
  | cons c r =>
    have h1 := lens_le (c :: r) h
    rw [List.map_cons, Lib.join_length]
    rw [List.map_cons] at h1
    simp only [List.length_map, List.length_cons, List.length_nil] at h1 hl ⊢
    omega
theorem join_any (v : Value) (cols : List ByteArray) (w : World) (hv : SlAt w 1 v cols.length (cols.map Value.string)) (hl : cols.length ≤ 1001) (hc : ∀ c ∈ cols, c.size ≤ 8) :
    Calls Tryz.prog 93 #[v, .string ⟨#[44]⟩] w fun e w' => e = .returned (.string ⟨(joinOut cols).toArray⟩) ∧ Below w.heap.size w w' := by
  have hjl := joinOut_len hl hc
  rcases hv with ⟨h0, ao, cap, rfl⟩ | ⟨g, cap, rfl, hcap, hm, hg, hx⟩
  · have : cols = [] := List.length_eq_zero_iff.1 h0
    subst this
    refine (Tryz.strings_Join_none ao cap ⟨#[44]⟩ w).mono ?_
    rintro e w' ⟨he, rfl⟩
    exact ⟨he, Below.refl _ _⟩
  · refine (Tryz.strings_Join g 0 cap cols ⟨#[44]⟩ w ?_ hg (by omega) hcap (by unfold joinOut at hjl; exact Nat.le_trans hjl (by omega))).mono ?_
    · intro j x hj
      have hjl := (List.getElem?_eq_some_iff.1 hj).1
      rw [Nat.zero_add, hx j (by omega)]
      simp [hj]
    · rintro e w' ⟨he, hb⟩
      exact ⟨he, hb⟩

theorem rulesOut_len (rs : List PRule) (h : ∀ r ∈ rs, WfR r) : (rs.flatMap ruleOut).length ≤ rs.length * 1100000 := by
  induction rs with
  | nil => simp
  | cons r rs ih =>
    have h1 := ruleOut_len (h r (by simp))
    have h2 := ih (fun x hx => h x (by simp [hx]))
    rw [List.flatMap_cons, List.length_append, List.length_cons]
    omega

def inputOut (it : PItem) : List UInt8 := [105, 110, 32] ++ it.name.data.toList ++ marksOut 47 it.marks ++ [59]
def tableOut (it : PItem) : List UInt8 := [116, 97, 98, 108, 101, 32] ++ it.name.data.toList ++ [32] ++ [u8 it.policy] ++ [40] ++ joinOut it.cols ++ [41] ++ marksOut 92 it.drops ++ [123] ++ it.rules.flatMap ruleOut ++ [125]

set_option maxRecDepth 100000 in
set_option maxHeartbeats 3200000 in
theorem writeInput_any {W0 : World} {b : Nat} {l : List UInt8} {w : World} (it : PItem) (co ro : Option Addr) (cn cc rn rc : Nat) (h : WInv W0 b l w) (hl : l.length ≤ 50000000000000) (hwf : WfI it) :
    Calls Tryz.prog 64 #[.pointer (some ⟨b, 0, none⟩), iv it (.slice co cn cc) (.slice ro rn rc)] w fun e w' => e = .returned (.tuple #[]) ∧ WInv W0 b (l ++ inputOut it) w' ∧ Lib.OthersKept 5 (some b) w w' := by
  have hbl := h.blk
  have hNb : w.heap.size ≠ b := by omega
  have hns : it.name.data.toList.length ≤ 8 := by have := hwf.name; simpa using this
  have hb0 : Below w.heap.size w (w.alloc (.cells #[.string it.name, .bool it.isT, .int .i64 (it.marks : Int), .int .u8 it.policy, .slice co cn cc, .int .i64 (it.drops : Int), .slice ro rn rc] 119)) := (Below.refl _ w).alloc (Nat.le_refl _) _
  have HW0 := hide (h.below hb0)
  have HO0 := hide (others_below (e := 5) (b := some b) hb0)
  have HN0 : Hid (Box w.heap.size #[.string it.name, .bool it.isT, .int .i64 (it.marks : Int), .int .u8 it.policy, .slice co cn cc, .int .i64 (it.drops : Int), .slice ro rn rc] 119 (w.alloc (.cells #[.string it.name, .bool it.isT, .int .i64 (it.marks : Int), .int .u8 it.policy, .slice co cn cc, .int .i64 (it.drops : Int), .slice ro rn rc] 119))) := alloc_last w _
  clear hb0 h
  simp only [iv, icells]
  go_enter Tryz.func64, Tryz.ntmps64
  go_wp2_with fail
  refine (ws_any _ (unhide HW0) (by omega) (by decide)).mono ?_
  rintro e wz1 ⟨rfl, hw, ho⟩
  obtain ⟨l1, hl1⟩ : ∃ x : List UInt8, l ++ [105, 110, 32] = x := ⟨_, rfl⟩
  rw [hl1] at hw
  have bl1 : l1.length ≤ l.length + 3 := by rw [← hl1]; rw [List.length_append]; first | omega | (simp only [List.length_cons, List.length_nil]; omega)
  have El1 := hide hl1
  clear hl1
  have HW1 := hide hw
  have HO1 := hide ((unhide HO0).trans ho)
  have hN1 := (unhide HN0).kept ho hNb (by decide)
  have HN1 := hide hN1
  obtain ⟨⟨k0, k1, k2, k3, k4, k5, k6⟩, -⟩ := cells7 hN1
  clear hw ho hN1 HW0 HO0 HN0
  go_wp2_with fail
  try clear k0 k1 k2 k3 k4 k5 k6
  refine (ws_any _ (unhide HW1) (by omega) (by have := hwf.name; omega)).mono ?_
  rintro e wz2 ⟨rfl, hw, ho⟩
  obtain ⟨l2, hl2⟩ : ∃ x : List UInt8, l1 ++ it.name.data.toList = x := ⟨_, rfl⟩
  rw [hl2] at hw
  have bl2 : l2.length ≤ l1.length + 8 := by rw [← hl2]; rw [List.length_append]; first | omega | (simp only [List.length_cons, List.length_nil]; omega)
  have El2 := hide hl2
  clear hl2
  have HW2 := hide hw
  have HO2 := hide ((unhide HO1).trans ho)
  have hN2 := (unhide HN1).kept ho hNb (by decide)
  have HN2 := hide hN2
  obtain ⟨⟨k0, k1, k2, k3, k4, k5, k6⟩, -⟩ := cells7 hN2
  clear hw ho hN2 HW1 HO1 HN1
  go_wp2_with fail
  try clear k0 k1 k2 k3 k4 k5 k6
  refine (writeMarks_any 47 it.marks (unhide HW2) (by omega) (by simp) (by simp) hwf.marks).mono ?_
  rintro e wz3 ⟨rfl, hw, ho⟩
  have hml := marksOut_len 47 it.marks
  obtain ⟨l3, hl3⟩ : ∃ x : List UInt8, l2 ++ marksOut 47 it.marks = x := ⟨_, rfl⟩
  rw [hl3] at hw
  have bl3 : l3.length ≤ l2.length + 4 := by rw [← hl3]; rw [List.length_append]; first | omega | (simp only [List.length_cons, List.length_nil]; omega)
  have El3 := hide hl3
  clear hl3
  have HW3 := hide hw
  have HO3 := hide ((unhide HO2).trans ho)
  have hN3 := (unhide HN2).kept ho hNb (by decide)
  have HN3 := hide hN3
  obtain ⟨⟨k0, k1, k2, k3, k4, k5, k6⟩, -⟩ := cells7 hN3
  clear hw ho hN3 HW2 HO2 HN2
  go_wp2_with fail
  try clear k0 k1 k2 k3 k4 k5 k6
  clear hml
  refine (wb_any _ (unhide HW3) (by omega) (by simp) (by simp)).mono ?_
  rintro e wz4 ⟨rfl, hw, ho⟩
  obtain ⟨l4, hl4⟩ : ∃ x : List UInt8, l3 ++ [u8 59] = x := ⟨_, rfl⟩
  rw [hl4] at hw
  have bl4 : l4.length ≤ l3.length + 1 := by rw [← hl4]; rw [List.length_append]; first | omega | (simp only [List.length_cons, List.length_nil]; omega)
  have El4 := hide hl4
  clear hl4
  have HW4 := hide hw
  have HO4 := hide ((unhide HO3).trans ho)
  have hN4 := (unhide HN3).kept ho hNb (by decide)
  have HN4 := hide hN4
  obtain ⟨⟨k0, k1, k2, k3, k4, k5, k6⟩, -⟩ := cells7 hN4
  clear hw ho hN4 HW3 HO3 HN3
  go_wp2_with fail
  try clear k0 k1 k2 k3 k4 k5 k6
  go_end0
  refine ⟨rfl, ?_, unhide HO4⟩
  have h9 := unhide HW4
  rw [← unhide El4, ← unhide El3, ← unhide El2, ← unhide El1] at h9
  simpa [inputOut, u8] using h9

set_option maxRecDepth 100000 in
set_option maxHeartbeats 6400000 in
theorem writeTable_any {W0 : World} {b : Nat} {l : List UInt8} {w : World} (it : PItem) (co ro : Option Addr) (cc rc : Nat) (vs : List Value) (h : WInv W0 b l w) (hl : l.length ≤ 50000000000000) (hwf : WfI it) (hv : ItemV W0 ⟨it, .slice co it.cols.length cc, .slice ro it.rules.length rc, vs⟩) (ht : Tab W0) :
    Calls Tryz.prog 63 #[.pointer (some ⟨b, 0, none⟩), iv it (.slice co it.cols.length cc) (.slice ro it.rules.length rc)] w fun e w' => e = .returned (.tuple #[]) ∧ WInv W0 b (l ++ tableOut it) w' ∧ Lib.OthersKept 5 (some b) w w' := by
  have hbl := h.blk
  have hNb : w.heap.size ≠ b := by omega
  have hns : it.name.data.toList.length ≤ 8 := by have := hwf.name; simpa using this
  have hb0 : Below w.heap.size w (w.alloc (.cells #[.string it.name, .bool it.isT, .int .i64 (it.marks : Int), .int .u8 it.policy, .slice co it.cols.length cc, .int .i64 (it.drops : Int), .slice ro it.rules.length rc] 119)) := (Below.refl _ w).alloc (Nat.le_refl _) _
  have HW0 := hide (h.below hb0)
  have HO0 := hide (others_below (e := 5) (b := some b) hb0)
  have HN0 : Hid (Box w.heap.size #[.string it.name, .bool it.isT, .int .i64 (it.marks : Int), .int .u8 it.policy, .slice co it.cols.length cc, .int .i64 (it.drops : Int), .slice ro it.rules.length rc] 119 (w.alloc (.cells #[.string it.name, .bool it.isT, .int .i64 (it.marks : Int), .int .u8 it.policy, .slice co it.cols.length cc, .int .i64 (it.drops : Int), .slice ro it.rules.length rc] 119))) := alloc_last w _
  clear hb0 h
  have hjl := joinOut_len hwf.clen hwf.cols
  have hrl := hwf.rlen
  have hpo := hwf.policy
  have HCV := hide hv.1
  have HRV := hide hv.2
  have HT := hide ht
  clear hv ht
  simp only [iv, icells]
  go_enter Tryz.func63, Tryz.ntmps63
  go_wp2_with fail
  refine (ws_any _ (unhide HW0) (by omega) (by decide)).mono ?_
  rintro e wz1 ⟨rfl, hw, ho⟩
  obtain ⟨l1, hl1⟩ : ∃ x : List UInt8, l ++ [116, 97, 98, 108, 101, 32] = x := ⟨_, rfl⟩
  rw [hl1] at hw
  have bl1 : l1.length ≤ l.length + 6 := by rw [← hl1]; rw [List.length_append]; first | omega | (simp only [List.length_cons, List.length_nil]; omega)
  have El1 := hide hl1
  clear hl1
  have HW1 := hide hw
  have HO1 := hide ((unhide HO0).trans ho)
  have hN1 := (unhide HN0).kept ho hNb (by decide)
  have HN1 := hide hN1
  obtain ⟨⟨k0, k1, k2, k3, k4, k5, k6⟩, -⟩ := cells7 hN1
  clear hw ho hN1 HW0 HO0 HN0
  go_wp2_with fail
  try clear k0 k1 k2 k3 k4 k5 k6
  refine (ws_any _ (unhide HW1) (by omega) (by have := hwf.name; omega)).mono ?_
  rintro e wz2 ⟨rfl, hw, ho⟩
  obtain ⟨l2, hl2⟩ : ∃ x : List UInt8, l1 ++ it.name.data.toList = x := ⟨_, rfl⟩
  rw [hl2] at hw
  have bl2 : l2.length ≤ l1.length + 8 := by rw [← hl2]; rw [List.length_append]; first | omega | (simp only [List.length_cons, List.length_nil]; omega)
  have El2 := hide hl2
  clear hl2
  have HW2 := hide hw
  have HO2 := hide ((unhide HO1).trans ho)
  have hN2 := (unhide HN1).kept ho hNb (by decide)
  have HN2 := hide hN2
  obtain ⟨⟨k0, k1, k2, k3, k4, k5, k6⟩, -⟩ := cells7 hN2
  clear hw ho hN2 HW1 HO1 HN1
  go_wp2_with fail
  try clear k0 k1 k2 k3 k4 k5 k6
  refine (wb_any _ (unhide HW2) (by omega) (by simp) (by simp)).mono ?_
  rintro e wz3 ⟨rfl, hw, ho⟩
  obtain ⟨l3, hl3⟩ : ∃ x : List UInt8, l2 ++ [u8 32] = x := ⟨_, rfl⟩
  rw [hl3] at hw
  have bl3 : l3.length ≤ l2.length + 1 := by rw [← hl3]; rw [List.length_append]; first | omega | (simp only [List.length_cons, List.length_nil]; omega)
  have El3 := hide hl3
  clear hl3
  have HW3 := hide hw
  have HO3 := hide ((unhide HO2).trans ho)
  have hN3 := (unhide HN2).kept ho hNb (by decide)
  have HN3 := hide hN3
  obtain ⟨⟨k0, k1, k2, k3, k4, k5, k6⟩, -⟩ := cells7 hN3
  clear hw ho hN3 HW2 HO2 HN2
  go_wp2_with fail
  try clear k0 k1 k2 k3 k4 k5 k6
  refine (wb_any _ (unhide HW3) (by omega) hpo.1 hpo.2).mono ?_
  rintro e wz4 ⟨rfl, hw, ho⟩
  obtain ⟨l4, hl4⟩ : ∃ x : List UInt8, l3 ++ [u8 it.policy] = x := ⟨_, rfl⟩
  rw [hl4] at hw
  have bl4 : l4.length ≤ l3.length + 1 := by rw [← hl4]; rw [List.length_append]; first | omega | (simp only [List.length_cons, List.length_nil]; omega)
  have El4 := hide hl4
  clear hl4
  have HW4 := hide hw
  have HO4 := hide ((unhide HO3).trans ho)
  have hN4 := (unhide HN3).kept ho hNb (by decide)
  have HN4 := hide hN4
  obtain ⟨⟨k0, k1, k2, k3, k4, k5, k6⟩, -⟩ := cells7 hN4
  clear hw ho hN4 HW3 HO3 HN3
  go_wp2_with fail
  try clear k0 k1 k2 k3 k4 k5 k6
  refine (wb_any _ (unhide HW4) (by omega) (by simp) (by simp)).mono ?_
  rintro e wz5 ⟨rfl, hw, ho⟩
  obtain ⟨l5, hl5⟩ : ∃ x : List UInt8, l4 ++ [u8 40] = x := ⟨_, rfl⟩
  rw [hl5] at hw
  have bl5 : l5.length ≤ l4.length + 1 := by rw [← hl5]; rw [List.length_append]; first | omega | (simp only [List.length_cons, List.length_nil]; omega)
  have El5 := hide hl5
  clear hl5
  have HW5 := hide hw
  have HO5 := hide ((unhide HO4).trans ho)
  have hN5 := (unhide HN4).kept ho hNb (by decide)
  have HN5 := hide hN5
  obtain ⟨⟨k0, k1, k2, k3, k4, k5, k6⟩, -⟩ := cells7 hN5
  clear hw ho hN5 HW4 HO4 HN4
  go_wp2_with fail
  try clear k0 k1 k2 k3 k4 k5 k6
  refine (join_any _ it.cols _ (unhide HCV |>.below' (unhide HW5).bl) hwf.clen hwf.cols).mono ?_
  rintro e wz6 ⟨rfl, hb⟩
  have hw := (unhide HW5).below hb
  have HW6 := hide hw
  have HO6 := hide ((unhide HO5).trans (others_below hb))
  have hN6 : Box w.heap.size #[.string it.name, .bool it.isT, .int .i64 (it.marks : Int), .int .u8 it.policy, .slice co it.cols.length cc, .int .i64 (it.drops : Int), .slice ro it.rules.length rc] 119 wz6 := (hb.block _ (lt_of_block (unhide HN5))).trans (unhide HN5)
  have HN6 := hide hN6
  obtain ⟨⟨k0, k1, k2, k3, k4, k5, k6⟩, -⟩ := cells7 hN6
  clear hw hb hN6 HW5 HO5 HN5
  go_wp2_with fail
  try clear k0 k1 k2 k3 k4 k5 k6
  refine (ws_any _ (unhide HW6) (by omega) (by show (joinOut it.cols).toArray.size ≤ _; rw [List.size_toArray]; omega)).mono ?_
  rintro e wz7 ⟨rfl, hw, ho⟩
  obtain ⟨l7, hl7⟩ : ∃ x : List UInt8, l5 ++ joinOut it.cols = x := ⟨_, rfl⟩
  rw [hl7] at hw
  have bl7 : l7.length ≤ l5.length + 20000 := by rw [← hl7]; rw [List.length_append]; first | omega | (simp only [List.length_cons, List.length_nil]; omega)
  have El7 := hide hl7
  clear hl7
  have HW7 := hide hw
  have HO7 := hide ((unhide HO6).trans ho)
  have hN7 := (unhide HN6).kept ho hNb (by decide)
  have HN7 := hide hN7
  obtain ⟨⟨k0, k1, k2, k3, k4, k5, k6⟩, -⟩ := cells7 hN7
  clear hw ho hN7 HW6 HO6 HN6
  go_wp2_with fail
  try clear k0 k1 k2 k3 k4 k5 k6
  refine (wb_any _ (unhide HW7) (by omega) (by simp) (by simp)).mono ?_
  rintro e wz8 ⟨rfl, hw, ho⟩
  obtain ⟨l8, hl8⟩ : ∃ x : List UInt8, l7 ++ [u8 41] = x := ⟨_, rfl⟩
  rw [hl8] at hw
  have bl8 : l8.length ≤ l7.length + 1 := by rw [← hl8]; rw [List.length_append]; first | omega | (simp only [List.length_cons, List.length_nil]; omega)
  have El8 := hide hl8
  clear hl8
  have HW8 := hide hw
  have HO8 := hide ((unhide HO7).trans ho)
  have hN8 := (unhide HN7).kept ho hNb (by decide)
  have HN8 := hide hN8
  obtain ⟨⟨k0, k1, k2, k3, k4, k5, k6⟩, -⟩ := cells7 hN8
  clear hw ho hN8 HW7 HO7 HN7
  go_wp2_with fail
  try clear k0 k1 k2 k3 k4 k5 k6
  refine (writeMarks_any 92 it.drops (unhide HW8) (by omega) (by simp) (by simp) hwf.drops).mono ?_
  rintro e wz9 ⟨rfl, hw, ho⟩
  have hml := marksOut_len 92 it.drops
  obtain ⟨l9, hl9⟩ : ∃ x : List UInt8, l8 ++ marksOut 92 it.drops = x := ⟨_, rfl⟩
  rw [hl9] at hw
  have bl9 : l9.length ≤ l8.length + 4 := by rw [← hl9]; rw [List.length_append]; first | omega | (simp only [List.length_cons, List.length_nil]; omega)
  have El9 := hide hl9
  clear hl9
  have HW9 := hide hw
  have HO9 := hide ((unhide HO8).trans ho)
  have hN9 := (unhide HN8).kept ho hNb (by decide)
  have HN9 := hide hN9
  obtain ⟨⟨k0, k1, k2, k3, k4, k5, k6⟩, -⟩ := cells7 hN9
  clear hw ho hN9 HW8 HO8 HN8
  go_wp2_with fail
  try clear k0 k1 k2 k3 k4 k5 k6
  clear hml
  refine (wb_any _ (unhide HW9) (by omega) (by simp) (by simp)).mono ?_
  rintro e wz10 ⟨rfl, hw, ho⟩
  obtain ⟨l10, hl10⟩ : ∃ x : List UInt8, l9 ++ [u8 123] = x := ⟨_, rfl⟩
  rw [hl10] at hw
  have bl10 : l10.length ≤ l9.length + 1 := by rw [← hl10]; rw [List.length_append]; first | omega | (simp only [List.length_cons, List.length_nil]; omega)
  have El10 := hide hl10
  clear hl10
  have HW10 := hide hw
  have HO10 := hide ((unhide HO9).trans ho)
  have hN10 := (unhide HN9).kept ho hNb (by decide)
  have HN10 := hide hN10
  obtain ⟨⟨k0, k1, k2, k3, k4, k5, k6⟩, -⟩ := cells7 hN10
  clear hw ho hN10 HW9 HO9 HN9
  go_wp2_with fail
  try clear k0 k1 k2 k3 k4 k5 k6
  have hz : (vs.zip it.rules).length = it.rules.length := by have := (unhide HRV).1; simp at this ⊢; omega
  have HZ := hide hz
  have HRW := hide hwf.rules
  clear hz
  go_loopg [36] it.rules.length (fun g i wr => ∃ j : Nat, j ≤ it.rules.length ∧ g = it.rules.length - j ∧ i = .int .i64 (j : Int) ∧ WInv W0 b (l10 ++ (it.rules.take j).flatMap ruleOut) wr ∧ Lib.OthersKept 5 (some b) w wr)
  case atStart => exact ⟨0, by omega, rfl, rfl, by simpa using unhide HW10, unhide HO10⟩
  case round =>
    obtain ⟨j, hj, hg, rfl, hwi, hok⟩ := hrel
    have A : Aside (gk = it.rules.length - j ∧ WInv W0 b (l10 ++ (it.rules.take j).flatMap ruleOut) wr ∧ Lib.OthersKept 5 (some b) w wr) := ⟨hg, hwi, hok⟩
    clear hg hok HW10 HO10 HN10
    have hfl : ((it.rules.take j).flatMap ruleOut).length ≤ 1200000000 := by
      have := rulesOut_len (it.rules.take j) (fun r hr => HRW.out r (List.mem_of_mem_take hr))
      simp only [List.length_take] at this
      omega
    by_cases hlt : j < it.rules.length
    · rcases (unhide HRV).2.1 with ⟨h0, _⟩ | ⟨g, cap', hv, hc, hm, hgl, hx⟩
      · omega
      simp only [Value.slice.injEq] at hv
      obtain ⟨rfl, _, rfl⟩ := hv
      have hlz : j < (vs.zip it.rules).length := by rw [unhide HZ]; exact hlt
      have key : ∀ i, i < 2 → wr.cell? ⟨g, j * 2 + i, none⟩ = (zcells (vs.zip it.rules)[j])[i]? := fun i hi => by
        rw [hwi.bl.cell (p := ⟨g, j * 2 + i, none⟩) hgl, hx _ (by omega)]
        exact flat_at zcells 2 (fun _ => rfl) (vs.zip it.rules) j i hlz hi
      have k0 := key 0 (by omega)
      have k1 := key 1 (by omega)
      have hy := (unhide HRV).2.2 (vs.zip it.rules)[j] (List.getElem_mem hlz)
      have he : (vs.zip it.rules)[j].2 = it.rules[j] := by rw [List.getElem_zip]
      have hrw := HRW.out it.rules[j] (List.getElem_mem hlt)
      have HTK := hide (List.take_succ_eq_append_getElem hlt)
      rw [← he] at hrw HTK
      generalize (vs.zip it.rules)[j] = y at *
      obtain ⟨yv, yts, ynum⟩ := y
      simp only [zcells, List.getElem?_cons_zero, List.getElem?_cons_succ, Nat.add_zero] at k0 k1 hy hrw HTK
      obtain ⟨yo, yc, rfl⟩ := hy.form
      have hjc : (j : Int) < it.rules.length := by omega
      have hb1 : Below wr.heap.size wr (wr.alloc (.cells #[.slice yo yts.length yc, .int .i64 ynum] 160)) := (Below.refl _ wr).alloc (Nat.le_refl _) _
      have HWa := hide (hwi.below hb1)
      have HOa := hide (A.out.2.2.trans (others_below hb1))
      have HY := hide hy
      clear key hx hc hm hgl hwi hb1 hy he
      go_wp2_with fail
      refine (writeRule_any yo yc yts ynum (unhide HWa) (by simp only [List.length_append]; omega) (unhide HY) hrw (unhide HT)).mono ?_
      rintro e wb ⟨rfl, hwb, hob⟩
      have HWb := hide hwb
      have HOb := hide ((unhide HOa).trans hob)
      clear hwb hob HWa HOa
      go_wp2
      go_roundg (it.rules.length - (j + 1))
      case measure => have := A.out.1; omega
      case rel =>
        refine ⟨j + 1, by omega, rfl, by go_num, ?_, unhide HOb⟩
        have h9 := unhide HWb
        rw [unhide HTK, List.flatMap_append]
        simpa using h9
    · have hje : j = it.rules.length := by omega
      have HJ := hide hje
      have hjc : ¬ (j : Int) < it.rules.length := by omega
      clear hje hwi
      go_wp2_with fail
      refine (wb_any _ A.out.2.1 (by simp only [List.length_append]; omega) (by simp) (by simp)).mono ?_
      rintro e wb ⟨rfl, hwb, hob⟩
      have HWb := hide hwb
      have HOb := hide (A.out.2.2.trans hob)
      clear hwb hob
      go_wp2
      go_end0
      refine ⟨rfl, ?_, unhide HOb⟩
      have h9 := unhide HWb
      rw [unhide HJ, List.take_length, ← unhide El10, ← unhide El9, ← unhide El8, ← unhide El7, ← unhide El5, ← unhide El4, ← unhide El3, ← unhide El2, ← unhide El1] at h9
      simpa [tableOut, u8] using h9

end Go.Proofs.YthnggjaecngbiaaGreatDoor
