import Derived.Test.YthnggjaecngbiaaGreatDoorSrH
import Derived.Test.YthnggjaecngbiaaGreatDoorMeC
import Derived.Deep.RegionHeld3
namespace Go.Proofs.YthnggjaecngbiaaGreatDoor
open Go.RowKit

/-- A rule whose number is 0. -/
def rawZ (r : RawR) : RawR := ⟨r.x, r.y, r.u, r.v, 1000⟩
theorem numM_z : numM 1000 = 0 := by unfold numM pickP; rfl
def planS (R : List RawR) : List PItem := planM 78 (R.map rawZ)
def rulesS (R : List RawR) : List PRule := (R.map rawZ).map ruleM
def colsS : List ByteArray := [nmX, nmY]
def InRg (x : Int) : Prop := -1000000 ≤ x ∧ x ≤ 1000000
theorem nmX_ne : nmX ≠ nmY := by
  intro h
  have := congrArg (fun b : ByteArray => b.data.toList) h
  simp [nmX, nmY] at this
theorem placeT (pol : Int) (R : List RawR) : placeP (planM pol R) nmT = 2 := by
  unfold placeP planM
  kernel_rfl
theorem namedT (pol : Int) (R : List RawR) : namedP (planM pol R) nmT = true := by
  unfold namedP planM
  kernel_rfl
theorem alone_two {its : List PItem} {nm : ByteArray} {pol : Int} {rs : List PRule} (hx : colTab its nmX = false) (hy : colTab its nmY = false) : aloneP its ⟨nm, true, 0, pol, [nmX, nmY], 0, rs⟩ = true := by
  unfold aloneP
  simp [hx, hy]
theorem leastS_ans (R : List RawR) (many : Bool) : leastAns (planS R) nmT many = (leastP colsS (rulesS R) many 2 [], 0) := by
  unfold leastAns
  have hx : colTab (planS R) nmX = false := by unfold colTab planS; rw [placeX]; rfl
  have hy : colTab (planS R) nmY = false := by unfold colTab planS; rw [placeY]; rfl
  have hg : (planS R).getD (placeP (planS R) nmT).toNat noItem = ⟨nmT, true, 0, 78, [nmX, nmY], 0, rulesS R⟩ := by
    unfold planS
    rw [placeT]
    rfl
  have hn : namedP (planS R) nmT = true := namedT 78 _
  rw [if_pos hn, hg, if_pos (alone_two hx hy)]
  rfl
theorem low_S (R : List RawR) : ∀ r ∈ rulesS R, ∀ t ∈ r.tests, -1000000 ≤ t.low ∧ -1000000 ≤ t.high := by
  intro r hr t ht
  unfold rulesS at hr
  rw [List.mem_map] at hr
  obtain ⟨q, _, rfl⟩ := hr
  simp only [ruleM, List.mem_cons, List.not_mem_nil, or_false] at ht
  rcases ht with rfl | rfl
  · have := testM_can q.x q.y; omega
  · have := testM_can q.u q.v; omega
theorem least_two {rs : List PRule} (many : Bool) (hl : ∀ r ∈ rs, ∀ t ∈ r.tests, -1000000 ≤ t.low ∧ -1000000 ≤ t.high) :
    (leastP colsS rs many 2 [] = none ∧ ∀ x y, InRg x → InRg y → wantP rs many [x, y] = false) ∨
    ∃ a b, leastP colsS rs many 2 [] = some [a, b] ∧ InRg a ∧ InRg b ∧ wantP rs many [a, b] = true ∧ ∀ x y, InRg x → InRg y → wantP rs many [x, y] = true → ¬ (x < a ∨ (x = a ∧ y < b)) := by
  have fit0 : ∀ x, InRg x → fitP colsS [] x := fun x hx => ⟨hx.1, hx.2, fun i hi => by simp at hi⟩
  have fit1 : ∀ x y, InRg y → fitP colsS [x] y := fun x y hy => ⟨hy.1, hy.2, fun i hi he => by
    have h0 : i = 0 := by simp at hi; omega
    subst h0
    exact absurd he nmX_ne⟩
  rcases searchC_spec (good_least (cols := colsS) (many := many) hl) 2 [] (InvP.nil _) (by simp [colsS]) with ⟨h1, h2⟩ | ⟨r, h1, y0, f0, e0, m0, y1, f1, e1, m1, rfl, hw⟩
  · refine Or.inl ⟨h1, fun x y hx hy => ?_⟩
    cases hq : wantP rs many [x, y] with
    | false => rfl
    | true => exact absurd ⟨x, fit0 x hx, y, fit1 x y hy, hq⟩ h2
  · refine Or.inr ⟨y0, y1, h1, ⟨f0.1, f0.2.1⟩, ⟨f1.1, f1.2.1⟩, hw, fun x y hx hy hq hlt => ?_⟩
    rcases hlt with hlt | ⟨rfl, hlt⟩
    · exact m0 x (fit0 x hx) hlt ⟨y, fit1 x y hy, hq⟩
    · exact m1 y (fit1 x y hy) hlt hq
def countS (R : List RawR) (x y : Int) : Nat := (metP (rulesS R) (valsN [x, y])).length
theorem tabsS (R : List RawR) (x y : Int) : tabsP (planS R) [x, y] = [⟨0, (countS R x y : Int)⟩] := by
  unfold planS
  rw [tabsM]
  unfold decideP
  rw [if_neg (by decide), if_pos rfl]
  unfold nsM countS numsOf metP rulesS valsN
  simp
theorem countS_len (R : List RawR) (x y : Int) (h : R.length ≤ 8) : countS R x y ≤ 8 := by
  unfold countS metP
  have := metTo_len (rulesS R) (valsN [x, y]) (rulesS R).length
  have h2 : (rulesS R).length = R.length := by simp [rulesS]
  omega
theorem fitsS (R : List RawR) {x y : Int} (hx : InRg x) (hy : InRg y) : fitsP (planS R) [x, y] = true := by
  unfold fitsP
  rw [show inputsP (planS R) = 2 from rfl]
  have nb : ∀ n : Int, InRg n → numBeyond n = false := fun n h => by unfold numBeyond; unfold InRg at h; simp; omega
  simp [nb x hx, nb y hy]
/-- The text so far. -/
def txtS (R : List RawR) (j : Nat) : List UInt8 := txtM 78 (R.map rawZ) j
theorem txtS_succ {R : List RawR} {j : Nat} (h : j < R.length) : txtS R (j + 1) = txtS R j ++ (testOut (testM R[j].x R[j].y) ++ [44] ++ testOut (testM R[j].u R[j].v) ++ [61, 48, 59]) := by
  unfold txtS
  rw [txtM_succ (by simpa using h)]
  have e0 : Lib.itoa 0 = [48] := by kernel_rfl
  simp [rawZ, numM_z, e0]
theorem txtS_len {R : List RawR} {j : Nat} (h : R.length ≤ 8) : (txtS R j).length ≤ 900 := txtM_len (by simpa using h)
theorem planOf_S {R : List RawR} (h : R.length ≤ 8) : planOf ⟨(txtS R R.length ++ [125]).toArray⟩ = .inr (planS R) := by
  have := planOf_M (pol := 78) (by decide) (rs := R.map rawZ) (by simpa using h)
  unfold txtS txtM planS
  rw [List.take_of_length_le (by simp)]
  exact this
/-- The plan of the first words. -/
def soText : List UInt8 := [105, 110, 32, 120, 59, 32, 105, 110, 32, 121, 59, 32, 116, 97, 98, 108, 101, 32, 116, 32, 83, 40, 120, 44, 121, 41, 123, 32, 60, 53, 44, 62, 48, 32, 61, 32, 49, 59, 32, 51, 46, 46, 57, 44, 49, 46, 46, 50, 32, 61, 32, 50, 59, 32, 125]
def soRules : List PRule := [⟨[⟨0, 5, 5, 0⟩, ⟨0, 6, 0, 0⟩], 1⟩, ⟨[⟨0, 4, 3, 9⟩, ⟨0, 4, 1, 2⟩], 2⟩]
def soItems : List PItem := [⟨nmX, false, 0, 0, [], 0, []⟩, ⟨nmY, false, 0, 0, [], 0, []⟩, ⟨nmT, true, 0, 83, [nmX, nmY], 0, soRules⟩]
theorem so_items : planOf ⟨soText.toArray⟩ = .inr soItems := by kernel_rfl
theorem so_ans (many : Bool) : leastAns soItems nmT many = (leastP colsS soRules many 2 [], 0) := by
  unfold leastAns
  have px : placeP soItems nmX = 0 := by kernel_rfl
  have py : placeP soItems nmY = 1 := by kernel_rfl
  have pt : placeP soItems nmT = 2 := by kernel_rfl
  have nt : namedP soItems nmT = true := by kernel_rfl
  have hx : colTab soItems nmX = false := by unfold colTab; rw [px]; rfl
  have hy : colTab soItems nmY = false := by unfold colTab; rw [py]; rfl
  have hg : soItems.getD (placeP soItems nmT).toNat noItem = ⟨nmT, true, 0, 83, [nmX, nmY], 0, soRules⟩ := by
    rw [pt]
    rfl
  rw [if_pos nt, hg, if_pos (alone_two hx hy)]
  rfl
theorem so_candX : candP colsS nmX soRules = [-1000000, 3, 5, 10] := by
  unfold candP
  rw [show keptP colsS nmX soRules = [-1000000, 5, 3, 10] by kernel_rfl]
  rw [show ([-1000000, 5, 3, 10] : List Int).mergeSort (fun x y => decide (x ≤ y)) = [-1000000, 3, 5, 10] by simp [List.mergeSort, List.MergeSort.Internal.splitInTwo]]
  kernel_rfl
theorem so_candY : candP colsS nmY soRules = [-1000000, 1, 3] := by
  unfold candP
  rw [show keptP colsS nmY soRules = [-1000000, 1, 1, 3] by kernel_rfl]
  rw [show ([-1000000, 1, 1, 3] : List Int).mergeSort (fun x y => decide (x ≤ y)) = [-1000000, 1, 1, 3] by simp [List.mergeSort, List.MergeSort.Internal.splitInTwo]]
  kernel_rfl
theorem so_least (many : Bool) : leastP colsS soRules many 2 [] = [-1000000, 3, 5, 10].findSome? fun y => [-1000000, 1, 3].findSome? fun z => if wantP soRules many [y, z] then some [y, z] else none := by
  have e0 : choiceP colsS soRules [] = [-1000000, 3, 5, 10] := by
    unfold choiceP
    rw [show earlierP colsS ([] : List Int).length = -1 by kernel_rfl, if_neg (by decide)]
    exact so_candX
  have e1 : ∀ y, choiceP colsS soRules [y] = [-1000000, 1, 3] := fun y => by
    unfold choiceP
    rw [show earlierP colsS ([y] : List Int).length = -1 by kernel_rfl, if_neg (by decide)]
    exact so_candY
  show (choiceP colsS soRules []).findSome? _ = _
  rw [e0]
  congr 1
  funext y
  show (choiceP colsS soRules ([] ++ [y])).findSome? _ = _
  rw [List.nil_append, e1]
  rfl
theorem so_gap : leastAns soItems nmT false = (some [-1000000, -1000000], 0) := by
  rw [so_ans, so_least]
  kernel_rfl
theorem so_overlap : leastAns soItems nmT true = (some [3, 1], 0) := by
  rw [so_ans, so_least]
  kernel_rfl
end Go.Proofs.YthnggjaecngbiaaGreatDoor

namespace Go.Proofs.YthnggjaecngbiaaGreatDoor
open Go.RowKit

/-- Eval at a plan of that kind. -/
theorem evalS_any (g : Nat) (R : List RawR) (vl : Value) (a b : Int) (ha : InRg a) (hb : InRg b) (w : World) (hp : PlanAt w g (planS R)) (hsl : SlAt w 1 vl 2 (ints [a, b])) :
    Calls Tryz.prog 20 #[.pointer (some ⟨g, 0, none⟩), vl] w fun e w' => ∃ go gc, e = .returned (.tuple #[.slice (some ⟨go, 0, none⟩) 1 gc, .int .i64 0]) ∧ Below w.heap.size w w' ∧ go < w'.heap.size ∧ w'.cell? ⟨go, 0, none⟩ = some (.int .i64 0) ∧ w'.cell? ⟨go, 1, none⟩ = some (.int .i64 (countS R a b : Int)) := by
  refine (eval_any g (planS R) vl [a, b] w hp hsl).mono ?_
  rintro e w' (⟨hf, _⟩ | ⟨_, lo, lc, rfl, hb5, hlo⟩)
  · rw [fitsS R ha hb] at hf
    cases hf
  rw [tabsS R a b] at hlo ⊢
  rcases SlAt.of_owns hlo with ⟨h0, _⟩ | ⟨gl, lcap, hlv, _, _, hgl, hlx⟩
  · simp at h0
  simp only [Value.slice.injEq] at hlv
  obtain ⟨rfl, _, rfl⟩ := hlv
  exact ⟨gl, lc, rfl, hb5, hgl, by rw [hlx 0 (by simp)]; rfl, by rw [hlx 1 (by simp)]; rfl⟩
theorem pairS {w : World} (a b : Int) : SlAt (w.alloc (.cells #[.int .i64 a, .int .i64 b] 3)) 1 (.slice (some ⟨w.heap.size, 0, none⟩) 2 2) 2 (ints [a, b]) := by
  have hN4 : (w.alloc (.cells #[.int .i64 a, .int .i64 b] 3)).heap[w.heap.size]? = some (.cells #[.int .i64 a, .int .i64 b] 3) := alloc_last w _
  refine Or.inr ⟨w.heap.size, 2, rfl, Nat.le_refl _, by unfold maxLen; omega, lt_of_block hN4, fun k hk => ?_⟩
  have hk2 : k = 0 ∨ k = 1 := by omega
  rcases hk2 with rfl | rfl
  · exact (box2 hN4).1.1
  · exact (box2 hN4).1.2

set_option maxRecDepth 100000 in
set_option maxHeartbeats 3200000 in
theorem found_any (g : Nat) (R : List RawR) (lo : Option Addr) (lc : Nat) (many : Bool) (x y : Int) (hx : InRg x) (hy : InRg y) (hR : R.length ≤ 8) (w : World) (hp : PlanAt w g (planS R))
    (hsl : SlAt w 1 (.slice lo ((leastP colsS (rulesS R) many 2 []).getD []).length lc) ((leastP colsS (rulesS R) many 2 []).getD []).length (ints ((leastP colsS (rulesS R) many 2 []).getD []))) :
    Calls Tryz.prog 32 #[.pointer (some ⟨g, 0, none⟩), .slice lo ((leastP colsS (rulesS R) many 2 []).getD []).length lc, .bool (leastP colsS (rulesS R) many 2 []).isSome, .int .i64 x, .int .i64 y, .bool (isSought many (countS R x y)), .bool many] w fun e w' => e = .returned (.bool true) ∧ Below w.heap.size w w' := by
  rcases least_two (rs := rulesS R) many (low_S R) with ⟨h1, h2⟩ | ⟨a, b, h1, ha, hb, hw, h2⟩
  · have hs : isSought many (countS R x y) = false := h2 x y hx hy
    rw [h1, hs]
    simp only [Option.getD_none, Option.isSome_none, List.length_nil]
    clear hsl h1 h2 hs
    go_enter Tryz.func32, Tryz.ntmps32
    go_wp2_with fail
    go_ret
    exact ⟨rfl, Below.refl _ _⟩
  · rw [h1] at hsl ⊢
    simp only [Option.getD_some, Option.isSome_some, List.length_cons, List.length_nil] at hsl ⊢
    have hsuch : isSought many (countS R x y) = true → ¬ (x < a ∨ (x = a ∧ y < b)) := h2 x y hx hy
    have hw2 : isSought many (countS R a b) = true := hw
    rcases hsl with ⟨h0, _⟩ | ⟨gl, lc', hv, hc, hm, hgl, hcell⟩
    · omega
    simp only [Value.slice.injEq] at hv
    obtain ⟨rfl, _, rfl⟩ := hv
    have k0 : w.cell? ⟨gl, 0, none⟩ = some (.int .i64 a) := by rw [hcell 0 (by omega)]; rfl
    have k1 : w.cell? ⟨gl, 1, none⟩ = some (.int .i64 b) := by rw [hcell 1 (by omega)]; rfl
    have hcl := countS_len R a b hR
    have HEV : Hid (∀ W, W = w.alloc (.cells #[.int .i64 a, .int .i64 b] 3) ∨ W = (w.alloc (.cells #[.int .i64 a, .int .i64 b] 3)).drew → Calls Tryz.prog 20 #[.pointer (some ⟨g, 0, none⟩), .slice (some ⟨w.heap.size, 0, none⟩) 2 2] W fun e w' => ∃ go gc, e = .returned (.tuple #[.slice (some ⟨go, 0, none⟩) 1 gc, .int .i64 0]) ∧ Below w.heap.size w w' ∧ go < w'.heap.size ∧ w'.cell? ⟨go, 0, none⟩ = some (.int .i64 0) ∧ w'.cell? ⟨go, 1, none⟩ = some (.int .i64 (countS R a b : Int))) := hide (fun W hW => by
      have hb1 : Below w.heap.size w (w.alloc (.cells #[.int .i64 a, .int .i64 b] 3)) := (Below.refl _ w).alloc (Nat.le_refl _) _
      have hbW : Below w.heap.size w W := by
        rcases hW with rfl | rfl
        · exact hb1
        · exact hb1.drew
      have hsW : SlAt W 1 (.slice (some ⟨w.heap.size, 0, none⟩) 2 2) 2 (ints [a, b]) := by
        rcases hW with rfl | rfl
        · exact pairS a b
        · exact (pairS a b).below (by exact (Below.refl _ _).drew)
      refine (evalS_any g R _ a b ha hb W (hp.below hbW) hsW).mono ?_
      rintro e w' ⟨go, gc, h1, h2, h3⟩
      exact ⟨go, gc, h1, below_after hbW h2, h3⟩)
    generalize isSought many (countS R x y) = such at *
    obtain ⟨n, hn⟩ : ∃ n, countS R a b = n := ⟨_, rfl⟩
    rw [hn] at hw2 HEV hcl
    clear hcell hc hm hp h1 h2 hw hn hx hy ha hb hR
    have hxa : such = true → ¬ x < a := fun h hlt => hsuch h (Or.inl hlt)
    have hxb : such = true → x = a → ¬ y < b := fun h he hlt => hsuch h (Or.inr ⟨he, hlt⟩)
    clear hsuch
    have hmn : (many = true → (1 : Int) < n) ∧ (many = false → ((n : Int) == 0) = true) := by
      constructor
      · intro h
        subst h
        simp [isSought] at hw2
        omega
      · intro h
        subst h
        simp [isSought] at hw2
        simp [hw2]
    obtain ⟨hm1, hm0⟩ := hmn
    clear hw2
    cases such with
    | false =>
      clear hxa hxb
      cases many with
      | false =>
        have hn0 := hm0 rfl
        clear hm0 hm1
        go_enter Tryz.func32, Tryz.ntmps32
        go_wp2_with fail
        go_region_held3 (fun w' => w'.cell? ⟨gl, 0, none⟩ = some (.int .i64 a) ∧ w'.cell? ⟨gl, 1, none⟩ = some (.int .i64 b)) (go_keep) (first | (go_at_call 20; refine (unhide HEV _ (by first | exact Or.inl rfl | exact Or.inr rfl)).mono ?_; rintro e w5 ⟨go, gc, rfl, hb5, hgo, v0, v1⟩; have z0 := (hb5.cell (p := ⟨gl, 0, none⟩) hgl).trans k0; have z1 := (hb5.cell (p := ⟨gl, 1, none⟩) hgl).trans k1; have HB5 := hide hb5; clear hb5))
        clear k0 k1 z0 z1
        go_wp2_with fail
        go_ret
        exact ⟨rfl, unhide HB5⟩
      | true =>
        have hn1 := hm1 rfl
        clear hm0 hm1
        go_enter Tryz.func32, Tryz.ntmps32
        go_wp2_with fail
        go_region_held3 (fun w' => w'.cell? ⟨gl, 0, none⟩ = some (.int .i64 a) ∧ w'.cell? ⟨gl, 1, none⟩ = some (.int .i64 b)) (go_keep) (first | (go_at_call 20; refine (unhide HEV _ (by first | exact Or.inl rfl | exact Or.inr rfl)).mono ?_; rintro e w5 ⟨go, gc, rfl, hb5, hgo, v0, v1⟩; have z0 := (hb5.cell (p := ⟨gl, 0, none⟩) hgl).trans k0; have z1 := (hb5.cell (p := ⟨gl, 1, none⟩) hgl).trans k1; have HB5 := hide hb5; clear hb5))
        clear k0 k1 z0 z1
        go_wp2_with fail
        go_ret
        exact ⟨rfl, unhide HB5⟩
    | true =>
      have hxl := hxa rfl
      by_cases hxe : x = a
      · have hyl := hxb rfl hxe
        have hxq : (x == a) = true := by simpa using hxe
        clear hxa hxb hxe
        cases many with
        | false =>
          have hn0 := hm0 rfl
          clear hm0 hm1
          go_enter Tryz.func32, Tryz.ntmps32
          go_wp2_with fail
          go_region_held3 (fun w' => w'.cell? ⟨gl, 0, none⟩ = some (.int .i64 a) ∧ w'.cell? ⟨gl, 1, none⟩ = some (.int .i64 b)) (go_keep) (first | (go_at_call 20; refine (unhide HEV _ (by first | exact Or.inl rfl | exact Or.inr rfl)).mono ?_; rintro e w5 ⟨go, gc, rfl, hb5, hgo, v0, v1⟩; have z0 := (hb5.cell (p := ⟨gl, 0, none⟩) hgl).trans k0; have z1 := (hb5.cell (p := ⟨gl, 1, none⟩) hgl).trans k1; have HB5 := hide hb5; clear hb5))
          clear k0 k1 z0 z1
          go_wp2_with fail
          go_ret
          exact ⟨rfl, unhide HB5⟩
        | true =>
          have hn1 := hm1 rfl
          clear hm0 hm1
          go_enter Tryz.func32, Tryz.ntmps32
          go_wp2_with fail
          go_region_held3 (fun w' => w'.cell? ⟨gl, 0, none⟩ = some (.int .i64 a) ∧ w'.cell? ⟨gl, 1, none⟩ = some (.int .i64 b)) (go_keep) (first | (go_at_call 20; refine (unhide HEV _ (by first | exact Or.inl rfl | exact Or.inr rfl)).mono ?_; rintro e w5 ⟨go, gc, rfl, hb5, hgo, v0, v1⟩; have z0 := (hb5.cell (p := ⟨gl, 0, none⟩) hgl).trans k0; have z1 := (hb5.cell (p := ⟨gl, 1, none⟩) hgl).trans k1; have HB5 := hide hb5; clear hb5))
          clear k0 k1 z0 z1
          go_wp2_with fail
          go_ret
          exact ⟨rfl, unhide HB5⟩
      · have hxq : (x == a) = false := by simpa using hxe
        clear hxa hxb hxe
        cases many with
        | false =>
          have hn0 := hm0 rfl
          clear hm0 hm1
          go_enter Tryz.func32, Tryz.ntmps32
          go_wp2_with fail
          go_region_held3 (fun w' => w'.cell? ⟨gl, 0, none⟩ = some (.int .i64 a) ∧ w'.cell? ⟨gl, 1, none⟩ = some (.int .i64 b)) (go_keep) (first | (go_at_call 20; refine (unhide HEV _ (by first | exact Or.inl rfl | exact Or.inr rfl)).mono ?_; rintro e w5 ⟨go, gc, rfl, hb5, hgo, v0, v1⟩; have z0 := (hb5.cell (p := ⟨gl, 0, none⟩) hgl).trans k0; have z1 := (hb5.cell (p := ⟨gl, 1, none⟩) hgl).trans k1; have HB5 := hide hb5; clear hb5))
          clear k0 k1 z0 z1
          go_wp2_with fail
          go_ret
          exact ⟨rfl, unhide HB5⟩
        | true =>
          have hn1 := hm1 rfl
          clear hm0 hm1
          go_enter Tryz.func32, Tryz.ntmps32
          go_wp2_with fail
          go_region_held3 (fun w' => w'.cell? ⟨gl, 0, none⟩ = some (.int .i64 a) ∧ w'.cell? ⟨gl, 1, none⟩ = some (.int .i64 b)) (go_keep) (first | (go_at_call 20; refine (unhide HEV _ (by first | exact Or.inl rfl | exact Or.inr rfl)).mono ?_; rintro e w5 ⟨go, gc, rfl, hb5, hgo, v0, v1⟩; have z0 := (hb5.cell (p := ⟨gl, 0, none⟩) hgl).trans k0; have z1 := (hb5.cell (p := ⟨gl, 1, none⟩) hgl).trans k1; have HB5 := hide hb5; clear hb5))
          clear k0 k1 z0 z1
          go_wp2_with fail
          go_ret
          exact ⟨rfl, unhide HB5⟩
end Go.Proofs.YthnggjaecngbiaaGreatDoor

namespace Go.Proofs.YthnggjaecngbiaaGreatDoor
open Go.RowKit

theorem two_cells {w : World} {base : Nat} {lo : Option Addr} {n lc : Nat} {a b : Int} (h : w.ownsRow base 3 1 (.slice lo n lc) 2 (ints [a, b])) : ∃ gl, lo = some ⟨gl, 0, none⟩ ∧ gl < w.heap.size ∧ w.cell? ⟨gl, 0, none⟩ = some (.int .i64 a) ∧ w.cell? ⟨gl, 1, none⟩ = some (.int .i64 b) := by
  rcases SlAt.of_owns h with ⟨h0, _⟩ | ⟨gl, lcap, hlv, _, _, hgl, hlx⟩
  · omega
  simp only [Value.slice.injEq] at hlv
  exact ⟨gl, hlv.1, hgl, by rw [hlx 0 (by omega)]; rfl, by rw [hlx 1 (by omega)]; rfl⟩

set_option maxRecDepth 100000 in
set_option maxHeartbeats 3200000 in
theorem sought_any (w : World) (ht : Tab w) :
    Calls Tryz.prog 29 #[] w fun e w' => e = .returned (.bool true) ∧ Below w.heap.size w w' := by
  have HT := hide ht
  clear ht
  go_enter Tryz.func29, Tryz.ntmps29
  go_wp2_with fail
  refine (begun_any _ (unhide HT)).mono ?_
  rintro e w1 ⟨rfl, hb1⟩
  have HB1 := hide hb1
  clear hb1
  go_wp2_with fail
  refine (new_any ⟨soText.toArray⟩ _ (by decide)).mono ?_
  rintro e w2 (⟨n, ce, hp, _⟩ | ⟨its, g, hp, rfl, hb2, hg, hpl⟩)
  · rw [so_items] at hp; cases hp
  rw [so_items] at hp
  simp only [Sum.inr.injEq] at hp
  subst hp
  have HB2 := hide (below_after (unhide HB1) hb2)
  have HP := hide hpl
  clear hb2 hpl
  go_wp2_with fail
  refine (gap_any g soItems nmT _ (unhide HP)).mono ?_
  rintro e w3 ⟨lo, lc, rfl, hb3, ho3⟩
  rw [so_gap] at ho3 ⊢
  simp only [Option.getD_some, Option.isSome_some, List.length_cons, List.length_nil] at ho3 ⊢
  obtain ⟨gl, rfl, hgl, a0, a1⟩ := two_cells ho3
  have HP3 := hide ((unhide HP).below hb3)
  have HB3 := hide (below_after (unhide HB2) hb3)
  have HA0 := hide a0
  have HA1 := hide a1
  clear hb3 ho3 a0 a1
  go_wp2_with fail
  refine (overlap_any g soItems nmT _ (unhide HP3)).mono ?_
  rintro e w4 ⟨ko, kc, rfl, hb4, ho4⟩
  rw [so_overlap] at ho4 ⊢
  simp only [Option.getD_some, Option.isSome_some, List.length_cons, List.length_nil] at ho4 ⊢
  obtain ⟨gk, rfl, hgk, b0, b1⟩ := two_cells ho4
  have a0 := (hb4.cell (p := ⟨gl, 0, none⟩) hgl).trans (unhide HA0)
  have a1 := (hb4.cell (p := ⟨gl, 1, none⟩) hgl).trans (unhide HA1)
  have hgl4 : gl < w4.heap.size := Nat.lt_of_lt_of_le hgl hb4.size
  have HB4 := hide (below_after (unhide HB3) hb4)
  clear hb4 ho4 HA0 HA1
  go_wp2_with fail
  go_ret
  exact ⟨by first | rfl | simp, unhide HB4⟩
end Go.Proofs.YthnggjaecngbiaaGreatDoor

