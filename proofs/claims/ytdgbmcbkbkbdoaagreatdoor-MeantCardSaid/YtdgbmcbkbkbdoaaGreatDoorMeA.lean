import Derived.Test.YtdgbmcbkbkbdoaaGreatDoorDgA
import Derived.Test.YtdgbmcbkbkbdoaaGreatDoorPbA
import Derived.Test.YtdgbmcbkbkbdoaaGreatDoorWrA
namespace Go.Proofs.YtdgbmcbkbkbdoaaGreatDoor
open Go.RowKit

def smallP (c : Int) : Int := (pickP c 41 : Int) - 20
theorem smallP_bd (c : Int) : -20 ≤ smallP c ∧ smallP c ≤ 20 := by
  have : pickP c 41 < 41 := Nat.mod_lt _ (by omega)
  unfold smallP
  omega
/-- A test as it is written. -/
def testM (x y : Int) : PTest := if smallP y < smallP x then ⟨1, 3, smallP x, 0⟩ else ⟨0, 4, smallP x, smallP y⟩

set_option maxHeartbeats 400000 in
theorem small_any (c : Int) (w : World) (h1 : -9223372036854775808 ≤ c) (h2 : c ≤ 9223372036854775807) :
    Calls Tryz.prog 22 #[.int .i64 c] w fun e w' => e = .returned (.int .i64 (smallP c)) ∧ w' = w := by
  have hp : pickP c 41 < 41 := Nat.mod_lt _ (by omega)
  have HS : Hid (smallP c = (pickP c 41 : Int) - 20) := hide rfl
  go_enter Tryz.func22, Tryz.ntmps22
  go_wp2_with fail
  refine (pick_any c 41 _ (by omega) (by omega) h1 h2).mono ?_
  rintro e w9 ⟨rfl, hw9⟩
  rw [hw9]
  clear hw9 w9
  generalize pickP c 41 = q at *
  go_wp2
  go_ret
  exact ⟨by rw [unhide HS]; rfl, rfl⟩

set_option maxRecDepth 100000 in
set_option maxHeartbeats 800000 in
theorem in_any (n x y : Int) (w : World) (h1 : -9223372036854775808 ≤ x) (h2 : x ≤ 9223372036854775807) (h3 : -9223372036854775808 ≤ y) (h4 : y ≤ 9223372036854775807) :
    Calls Tryz.prog 25 #[.int .i64 n, .int .i64 x, .int .i64 y] w fun e w' => e = .returned (.bool (meetsP (testM x y) 0 n)) ∧ w' = w := by
  have HT : Hid (testM x y = if smallP y < smallP x then ⟨1, 3, smallP x, 0⟩ else ⟨0, 4, smallP x, smallP y⟩) := hide rfl
  have hx := smallP_bd x
  have hy := smallP_bd y
  have HX := hide (small_any x w h1 h2)
  have HY := hide (small_any y w h3 h4)
  go_enter Tryz.func25, Tryz.ntmps25
  go_wp2_with fail
  refine (unhide HX).mono ?_
  rintro e w9 ⟨rfl, hw9⟩
  rw [hw9]
  clear hw9 w9 HX
  go_wp2_with fail
  refine (unhide HY).mono ?_
  rintro e w9 ⟨rfl, hw9⟩
  rw [hw9]
  clear hw9 w9 HY
  generalize smallP x = a at *
  generalize smallP y = b at *
  by_cases hlt : b < a
  · rw [if_pos hlt] at HT
    go_wp2
    go_ret
    refine ⟨ret_bool ?_, rfl⟩
    rw [unhide HT, Bool.eq_iff_iff]
    simp [meetsP, bareMeets]
  · rw [if_neg hlt] at HT
    by_cases hna : a ≤ n
    · go_wp2
      go_ret
      refine ⟨ret_bool ?_, rfl⟩
      rw [unhide HT, Bool.eq_iff_iff]
      simp [meetsP, bareMeets]
      omega
    · go_wp2
      go_ret
      refine ⟨ret_bool ?_, rfl⟩
      rw [unhide HT, Bool.eq_iff_iff]
      simp [meetsP, bareMeets]
      omega

set_option maxRecDepth 100000 in
set_option maxHeartbeats 1600000 in
theorem ktest_any (x y : Int) (w : World) (h1 : -9223372036854775808 ≤ x) (h2 : x ≤ 9223372036854775807) (h3 : -9223372036854775808 ≤ y) (h4 : y ≤ 9223372036854775807) :
    Calls Tryz.prog 23 #[.int .i64 x, .int .i64 y] w fun e w' => e = .returned (.string ⟨(testOut (testM x y)).toArray⟩) ∧ Below w.heap.size w w' := by
  have HT : Hid (testM x y = if smallP y < smallP x then ⟨1, 3, smallP x, 0⟩ else ⟨0, 4, smallP x, smallP y⟩) := hide rfl
  have hx := smallP_bd x
  have hy := smallP_bd y
  have HX := hide (small_any x w h1 h2)
  have HY := hide (small_any y w h3 h4)
  go_enter Tryz.func23, Tryz.ntmps23
  go_wp2_with fail
  refine (unhide HX).mono ?_
  rintro e w9 ⟨rfl, hw9⟩
  rw [hw9]
  clear hw9 w9 HX
  go_wp2_with fail
  refine (unhide HY).mono ?_
  rintro e w9 ⟨rfl, hw9⟩
  rw [hw9]
  clear hw9 w9 HY
  generalize smallP x = a at *
  generalize smallP y = b at *
  have hla := itoa_len (n := a) (by omega) (by omega)
  have hlb := itoa_len (n := b) (by omega) (by omega)
  obtain ⟨A1, hA1⟩ : ∃ A1 : ByteArray, (⟨(Lib.itoa a).toArray⟩ : ByteArray) = A1 := ⟨_, rfl⟩
  obtain ⟨B1, hB1⟩ : ∃ B1 : ByteArray, (⟨(Lib.itoa b).toArray⟩ : ByteArray) = B1 := ⟨_, rfl⟩
  have hAs : A1.size ≤ 8 := by rw [← hA1]; show (Lib.itoa a).toArray.size ≤ _; rw [List.size_toArray]; omega
  have hBs : B1.size ≤ 8 := by rw [← hB1]; show (Lib.itoa b).toArray.size ≤ _; rw [List.size_toArray]; omega
  have HA : Hid (A1.data.toList = Lib.itoa a) := hide (by rw [← hA1])
  have HB : Hid (B1.data.toList = Lib.itoa b) := hide (by rw [← hB1])
  have HDA := hide (fun w => kdigits_any a w (by omega) (by omega))
  have HDB := hide (fun w => kdigits_any b w (by omega) (by omega))
  rw [hA1] at HDA
  rw [hB1] at HDB
  clear hA1 hB1
  by_cases hlt : b < a
  · rw [if_pos hlt] at HT
    go_wp2_with fail
    refine (unhide HDA _).mono ?_
    rintro e w1 ⟨rfl, hb1⟩
    have HB1 := hide hb1
    clear hb1
    go_wp2_with fail
    go_ret
    refine ⟨ret_str ?_, unhide HB1⟩
    rw [unhide HT]
    simp [testOut, bareOut, Lib.repeatL, unhide HA]
  · rw [if_neg hlt] at HT
    go_wp2_with fail
    refine (unhide HDA _).mono ?_
    rintro e w1 ⟨rfl, hb1⟩
    have HB1 := hide hb1
    clear hb1
    go_wp2_with fail
    refine (unhide HDB _).mono ?_
    rintro e w2 ⟨rfl, hb2⟩
    have HB2 := hide (below_after (unhide HB1) hb2)
    clear hb2
    go_wp2_with fail
    go_ret
    refine ⟨ret_str ?_, unhide HB2⟩
    rw [unhide HT]
    simp [testOut, bareOut, Lib.repeatL, unhide HA, unhide HB]
end Go.Proofs.YtdgbmcbkbkbdoaaGreatDoor

namespace Go.Proofs.YtdgbmcbkbkbdoaaGreatDoor
open Go.RowKit

/-- A raw rule of five numbers. -/
structure RawR where
  x : Int
  y : Int
  u : Int
  v : Int
  n : Int
def numM (c : Int) : Int := (pickP c 2001 : Int) - 1000
def ruleM (r : RawR) : PRule := ⟨[testM r.x r.y, testM r.u r.v], numM r.n⟩
def nmX : ByteArray := ⟨#[120]⟩
def nmY : ByteArray := ⟨#[121]⟩
def nmT : ByteArray := ⟨#[116]⟩
def planM (pol : Int) (rs : List RawR) : List PItem := [⟨nmX, false, 0, 0, [], 0, []⟩, ⟨nmY, false, 0, 0, [], 0, []⟩, ⟨nmT, true, 0, pol, [nmX, nmY], 0, rs.map ruleM⟩]
/-- The text up to the rules. -/
def headM (pol : Int) : List UInt8 := [105, 110, 32, 120, 59, 105, 110, 32, 121, 59, 116, 97, 98, 108, 101, 32, 116, 32] ++ [u8 pol] ++ [40, 120, 44, 121, 41, 123]
def textM (pol : Int) (rs : List RawR) : List UInt8 := headM pol ++ (rs.map ruleM).flatMap ruleOut

theorem numM_bd (c : Int) : -1000 ≤ numM c ∧ numM c ≤ 1000 := by
  have : pickP c 2001 < 2001 := Nat.mod_lt _ (by omega)
  unfold numM
  omega
theorem testM_can (x y : Int) : CanT (testM x y) ∧ (-20 ≤ (testM x y).low ∧ (testM x y).low ≤ 20) ∧ (-20 ≤ (testM x y).high ∧ (testM x y).high ≤ 20) := by
  have hx := smallP_bd x
  have hy := smallP_bd y
  unfold testM
  split
  · exact ⟨⟨by simp, by simp only; omega, by simp, by simp, by simp⟩, by simp only; omega, by simp⟩
  · exact ⟨⟨by simp, by simp only; omega, by simp only; omega, by simp, by simp⟩, by simp only; omega, by simp only; omega⟩
theorem ruleM_can (r : RawR) : CanR (ruleM r) := by
  have hn := numM_bd r.n
  refine ⟨by simp [ruleM], fun t ht => ?_, by simp only [ruleM]; omega⟩
  simp [ruleM] at ht
  rcases ht with rfl | rfl
  · exact (testM_can _ _).1
  · exact (testM_can _ _).1
theorem planM_can {pol : Int} (hp : isPol pol = true) (rs : List RawR) : ∀ it ∈ planM pol rs, CanI it := by
  have hX : NameOK nmX := ⟨by unfold isNameB; rw [ByteArray.toList_eq]; rfl, by decide⟩
  have hY : NameOK nmY := ⟨by unfold isNameB; rw [ByteArray.toList_eq]; rfl, by decide⟩
  have hT : NameOK nmT := ⟨by unfold isNameB; rw [ByteArray.toList_eq]; rfl, by decide⟩
  intro it hi
  simp [planM] at hi
  rcases hi with rfl | rfl | rfl
  · exact Or.inl ⟨rfl, hX, by simp, rfl, rfl, rfl, rfl⟩
  · exact Or.inl ⟨rfl, hY, by simp, rfl, rfl, rfl, rfl⟩
  · refine Or.inr ⟨rfl, hT, rfl, hp, by simp, fun c hc => ?_, by simp, fun r hr => ?_⟩
    · simp at hc
      rcases hc with rfl | rfl
      · exact hX
      · exact hY
    · simp only [List.mem_map] at hr
      obtain ⟨q, _, rfl⟩ := hr
      exact ruleM_can q
theorem planR_M {pol : Int} (hp : isPol pol = true) (rs : List RawR) : planR ⟨(textM pol rs ++ [125]).toArray⟩ = .inr (planM pol rs) := by
  have h := planR_of_out (s := ⟨(textM pol rs ++ [125]).toArray⟩) ((planM pol rs).map fun it => (it, [])) (by
    simp [planM, textM, headM, itemOut0, inputOut, tableOut, marksOut, joinOut, Lib.join, List.intercalate, nmX, nmY, nmT]) (fun p hp' => by
    rw [List.mem_map] at hp'
    obtain ⟨it, hi, rfl⟩ := hp'
    exact ⟨planM_can hp rs it hi, fun c hc => by simp at hc⟩)
  rw [h, List.map_map]
  congr 1
theorem ruleM_len (r : RawR) : (ruleOut (ruleM r)).length ≤ 100 := by
  have hx := smallP_bd r.x
  have hy := smallP_bd r.y
  have hu := smallP_bd r.u
  have hv := smallP_bd r.v
  have hn := numM_bd r.n
  have key : ∀ x y : Int, (testOut (testM x y)).length ≤ 20 := fun x y => by
    have hx := smallP_bd x
    have hy := smallP_bd y
    have h1 := itoa_len (n := smallP x) (by omega) (by omega)
    have h2 := itoa_len (n := smallP y) (by omega) (by omega)
    unfold testM
    split
    · simp [testOut, bareOut, Lib.repeatL]; omega
    · simp [testOut, bareOut, Lib.repeatL]; omega
  have h1 := key r.x r.y
  have h2 := key r.u r.v
  have h3 := itoa_len (n := numM r.n) (by omega) (by omega)
  simp [ruleOut, ruleM, tOuts]
  omega
theorem rulesM_len : ∀ rs : List RawR, ((rs.map ruleM).flatMap ruleOut).length ≤ rs.length * 100
  | [] => by simp
  | r :: rs => by
    have h1 := ruleM_len r
    have h2 := rulesM_len rs
    rw [List.map_cons, List.flatMap_cons, List.length_append, List.length_cons]
    omega
theorem textM_len {pol : Int} {rs : List RawR} (h : rs.length ≤ 8) : (textM pol rs).length ≤ 900 := by
  have := rulesM_len rs
  unfold textM headM
  simp only [List.length_append, List.length_cons, List.length_nil]
  omega
theorem planM_check {pol : Int} {rs : List RawR} (h : rs.length ≤ 8) : checkR (planM pol rs) = (0, 0) := by
  have hr : ∀ r : RawR, ruleBeyond (ruleM r) = false := fun r => by
    have hn := numM_bd r.n
    have h1 := testM_can r.x r.y
    have h2 := testM_can r.u r.v
    have nb : ∀ n : Int, -1000 ≤ n → n ≤ 1000 → numBeyond n = false := fun n a b => by unfold numBeyond; simp; omega
    unfold ruleBeyond ruleM testBeyond
    simp only [List.any_cons, List.any_nil, Bool.or_false]
    rw [nb _ hn.1 hn.2, nb _ (by omega) (by omega), nb _ (by omega) (by omega), nb _ (by omega) (by omega), nb _ (by omega) (by omega)]
    rfl
  have hb : beyondB (planM pol rs) = false := by
    unfold beyondB planM itemBeyond
    have h8 : ¬ 8 < rs.length := by omega
    simp [h8, hr]
  have hw : ((rs.map ruleM).any fun r => decide (r.tests.length ≠ 2)) = false := by
    rw [List.any_eq_false]
    intro r hr'
    rw [List.mem_map] at hr'
    obtain ⟨q, _, rfl⟩ := hr'
    simp [ruleM]
  have n1 : namedP [] nmX = false := rfl
  have e1 : checkItemP ⟨nmX, false, 0, 0, [], 0, []⟩ [] = 0 := by unfold checkItemP; rw [n1]; rfl
  have n2 : namedP [⟨nmX, false, 0, 0, [], 0, []⟩] nmY = false := by kernel_rfl
  have e2 : checkItemP ⟨nmY, false, 0, 0, [], 0, []⟩ [⟨nmX, false, 0, 0, [], 0, []⟩] = 0 := by unfold checkItemP; rw [n2]; rfl
  have n3 : namedP [⟨nmX, false, 0, 0, [], 0, []⟩, ⟨nmY, false, 0, 0, [], 0, []⟩] nmT = false := by kernel_rfl
  have n4 : namedP [⟨nmX, false, 0, 0, [], 0, []⟩, ⟨nmY, false, 0, 0, [], 0, []⟩] nmX = true := by kernel_rfl
  have n5 : namedP [⟨nmX, false, 0, 0, [], 0, []⟩, ⟨nmY, false, 0, 0, [], 0, []⟩] nmY = true := by kernel_rfl
  have e3 : checkItemP ⟨nmT, true, 0, pol, [nmX, nmY], 0, rs.map ruleM⟩ [⟨nmX, false, 0, 0, [], 0, []⟩, ⟨nmY, false, 0, 0, [], 0, []⟩] = 0 := by
    unfold checkItemP
    rw [n3, if_neg (by simp)]
    simp only [List.any_cons, List.any_nil, n4, n5, Bool.not_true, Bool.or_false, List.length_cons, List.length_nil]
    rw [if_neg (by simp), if_neg (by intro hx; rw [show ((rs.map ruleM).any fun r => decide (r.tests.length ≠ 0 + 1 + 1)) = false from hw] at hx; cases hx)]
  unfold checkR
  rw [hb, if_neg (by simp)]
  unfold planM
  simp only [checkL, e1, e2, e3, List.nil_append, List.cons_append, if_true]
theorem planOf_M {pol : Int} (hp : isPol pol = true) {rs : List RawR} (h : rs.length ≤ 8) : planOf ⟨(textM pol rs ++ [125]).toArray⟩ = .inr (planM pol rs) := by
  have hl := textM_len (pol := pol) h
  have hsz : ¬ 1000 < (⟨(textM pol rs ++ [125]).toArray⟩ : ByteArray).size := by
    show ¬ 1000 < (textM pol rs ++ [125]).toArray.size
    rw [List.size_toArray, List.length_append]
    simp only [List.length_cons, List.length_nil]
    omega
  unfold planOf
  rw [if_neg hsz, planR_M hp rs]
  simp only [planM_check h, if_true]
end Go.Proofs.YtdgbmcbkbkbdoaaGreatDoor

namespace Go.Proofs.YtdgbmcbkbkbdoaaGreatDoor
open Go.RowKit

theorem getD_snoc_ex {α : Type} (x y z d : α) : [x, y, z].getD 2 d = z := rfl
/-- The numbers of the rules met among the first j. -/
def nsM (R : List RawR) (a b : Int) (j : Nat) : List Int := numsOf (R.map ruleM) (metTo (R.map ruleM) [⟨0, a⟩, ⟨0, b⟩] j)
theorem nsM_zero (R : List RawR) (a b : Int) : nsM R a b 0 = [] := rfl
theorem nsM_succ {R : List RawR} {a b : Int} {j : Nat} (h : j < R.length) : nsM R a b (j + 1) = nsM R a b j ++ (if meetsP (testM R[j].x R[j].y) 0 a && meetsP (testM R[j].u R[j].v) 0 b then [numM R[j].n] else []) := by
  unfold nsM
  rw [metTo_succ _ _ _ (by simpa using h)]
  unfold numsOf
  rw [List.map_append]
  congr 1
  have e : ruleMet ((R.map ruleM)[j]'(by simpa using h)).tests [⟨0, a⟩, ⟨0, b⟩] = (meetsP (testM R[j].x R[j].y) 0 a && meetsP (testM R[j].u R[j].v) 0 b) := by
    rw [List.getElem_map]
    simp [ruleMet, ruleM]
  rw [e]
  split
  · simp [numOf, h, ruleM]
  · rfl
theorem nsM_len (R : List RawR) (a b : Int) (j : Nat) : (nsM R a b j).length ≤ j := by
  unfold nsM numsOf
  rw [List.length_map]
  exact metTo_len _ _ _
theorem nsM_bd {R : List RawR} {a b : Int} : ∀ x ∈ nsM R a b R.length, -1000 ≤ x ∧ x ≤ 1000 := fun x hx => by
  unfold nsM numsOf at hx
  rw [List.mem_map] at hx
  obtain ⟨i, hi, rfl⟩ := hx
  have := metTo_lt (rs := R.map ruleM) (j := R.length) (by simp) i hi
  simp at this
  have e : numOf (R.map ruleM) i = numM R[i].n := by simp [numOf, this, ruleM]
  rw [e]
  exact numM_bd _
theorem placeX (pol : Int) (R : List RawR) : placeP (planM pol R) nmX = 0 := by
  unfold placeP planM
  kernel_rfl
theorem placeY (pol : Int) (R : List RawR) : placeP (planM pol R) nmY = 1 := by
  unfold placeP planM
  kernel_rfl
theorem tabsM (pol : Int) (R : List RawR) (a b : Int) : tabsP (planM pol R) [a, b] = [decideP pol (nsM R a b R.length)] := by
  have r3 : resP (planM pol R) [a, b] = [(⟨0, a⟩, []), (⟨0, b⟩, []), tableP ⟨nmT, true, 0, pol, [nmX, nmY], 0, R.map ruleM⟩ [⟨0, a⟩, ⟨0, b⟩]] := by
    have hc : colVals (planM pol R) [⟨0, a⟩, ⟨0, b⟩] ⟨nmT, true, 0, pol, [nmX, nmY], 0, R.map ruleM⟩ = [⟨0, a⟩, ⟨0, b⟩] := by
      unfold colVals
      simp only [List.map_cons, List.map_nil, placeX, placeY]
      rfl
    show resTo (planM pol R) [a, b] 3 = _
    rw [← hc]
    rfl
  unfold tabsP
  rw [r3]
  show [(tableP _ _).1] = _
  unfold tableP nsM metP
  simp
theorem inputsM (pol : Int) (R : List RawR) : inputsP (planM pol R) = 2 := rfl
theorem fitsM (pol : Int) (R : List RawR) {a b : Int} (ha : -20 ≤ a ∧ a ≤ 20) (hb : -20 ≤ b ∧ b ≤ 20) : fitsP (planM pol R) [a, b] = true := by
  unfold fitsP
  rw [inputsM]
  have nb : ∀ n : Int, -20 ≤ n → n ≤ 20 → numBeyond n = false := fun n a b => by unfold numBeyond; simp; omega
  simp [nb a ha.1 ha.2, nb b hb.1 hb.2]
/-- The text so far. -/
def txtM (pol : Int) (R : List RawR) (j : Nat) : List UInt8 := textM pol (R.take j)
theorem txtM_succ {pol : Int} {R : List RawR} {j : Nat} (h : j < R.length) : txtM pol R (j + 1) = txtM pol R j ++ (testOut (testM R[j].x R[j].y) ++ [44] ++ testOut (testM R[j].u R[j].v) ++ [61] ++ Lib.itoa (numM R[j].n) ++ [59]) := by
  unfold txtM textM
  rw [List.take_succ_eq_append_getElem h, List.map_append, List.flatMap_append]
  simp [ruleOut, ruleM, tOuts]
theorem txtM_len {pol : Int} {R : List RawR} {j : Nat} (h : R.length ≤ 8) : (txtM pol R j).length ≤ 900 := textM_len (by rw [List.length_take]; omega)
theorem testM_len (x y : Int) : (testOut (testM x y)).length ≤ 20 := by
  have hx := smallP_bd x
  have hy := smallP_bd y
  have h1 := itoa_len (n := smallP x) (by omega) (by omega)
  have h2 := itoa_len (n := smallP y) (by omega) (by omega)
  unfold testM
  split
  · simp [testOut, bareOut, Lib.repeatL]; omega
  · simp [testOut, bareOut, Lib.repeatL]; omega
theorem box5 {w : World} {N : Nat} {a b c d e : Value} {T : TypeId} (h : w.heap[N]? = some (.cells #[a, b, c, d, e] T)) :
    w.cell? ⟨N, 0, none⟩ = some a ∧ w.cell? ⟨N, 1, none⟩ = some b ∧ w.cell? ⟨N, 2, none⟩ = some c ∧ w.cell? ⟨N, 3, none⟩ = some d ∧ w.cell? ⟨N, 4, none⟩ = some e := by
  simp [World.cell?, h]
/-- The greatest number so far. -/
def mostM (l : List Int) : Int := l.foldl max (-1001)
theorem most_foldl : ∀ (l : List Int) (c x : Int), c ≤ x → (x :: l).foldl max c = l.foldl max x := fun l c x h => by
  rw [List.foldl_cons, Int.max_eq_right h]
theorem most_take (l : List Int) (j : Nat) (h : j < l.length) : mostM (l.take (j + 1)) = max (mostM (l.take j)) l[j] := by
  unfold mostM
  rw [List.take_succ_eq_append_getElem h, List.foldl_append]
  rfl
theorem most_bd : ∀ (l : List Int) (c : Int), (∀ x ∈ l, -1000 ≤ x ∧ x ≤ 1000) → -1001 ≤ c → c ≤ 1000 → -1001 ≤ l.foldl max c ∧ l.foldl max c ≤ 1000
  | [], c, _, h1, h2 => ⟨h1, h2⟩
  | x :: l, c, h, h1, h2 => by
    have hx := h x (by simp)
    rw [List.foldl_cons]
    exact most_bd l (max c x) (fun y hy => h y (by simp [hy])) (by omega) (by omega)
/-- The policy's letter. -/
def polM (q : Nat) : Int := [85, 70, 83, 78, 80].getD q 80
/-- Rules that came in. -/
def RawRs (w : World) (v : Value) (raw : List RawR) : Prop :=
  (raw = [] ∧ ∃ ao cap, v = .slice ao 0 cap) ∨ ∃ g off cap, v = .slice (some ⟨g, off, none⟩) raw.length cap ∧ raw.length ≤ cap ∧ cap ≤ maxLen ∧ g < w.heap.size ∧ ∀ j r, raw[j]? = some r → w.cell? ⟨g, off + j * 5, none⟩ = some (.int .i64 r.x) ∧ w.cell? ⟨g, off + j * 5 + 1, none⟩ = some (.int .i64 r.y) ∧ w.cell? ⟨g, off + j * 5 + 2, none⟩ = some (.int .i64 r.u) ∧ w.cell? ⟨g, off + j * 5 + 3, none⟩ = some (.int .i64 r.v) ∧ w.cell? ⟨g, off + j * 5 + 4, none⟩ = some (.int .i64 r.n)
theorem RawRs.form {w : World} {v : Value} {raw : List RawR} (h : RawRs w v raw) : ∃ ao cap, v = .slice ao raw.length cap := by
  rcases h with ⟨rfl, ao, cap, rfl⟩ | ⟨g, off, cap, rfl, _⟩
  · exact ⟨ao, cap, rfl⟩
  · exact ⟨_, _, rfl⟩
theorem RawRs.len {w : World} {v : Value} {raw : List RawR} (h : RawRs w v raw) : raw.length ≤ maxLen := by
  rcases h with ⟨rfl, _⟩ | ⟨g, off, cap, _, h1, h2, _⟩
  · simp
  · omega
/-- Numbers of 64 bits. -/
def I64 (x : Int) : Prop := -9223372036854775808 ≤ x ∧ x ≤ 9223372036854775807
def RawR.ok (r : RawR) : Prop := I64 r.x ∧ I64 r.y ∧ I64 r.u ∧ I64 r.v ∧ I64 r.n
end Go.Proofs.YtdgbmcbkbkbdoaaGreatDoor

