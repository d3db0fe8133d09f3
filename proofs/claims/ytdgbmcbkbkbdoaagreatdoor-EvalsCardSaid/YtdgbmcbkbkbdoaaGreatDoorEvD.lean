import Derived.Test.YtdgbmcbkbkbdoaaGreatDoorEvA
import Derived.Deep.OwnRows
namespace Go.Proofs.YtdgbmcbkbkbdoaaGreatDoor
open Go.RowKit
theorem foldl_bd : ∀ (l : List Int) (a : Int), (∀ x ∈ l, -1000000 ≤ x ∧ x ≤ 1000000) → a - 1000000 * l.length ≤ l.foldl (· + ·) a ∧ l.foldl (· + ·) a ≤ a + 1000000 * l.length
 | [], a, _ => by simp
 | x :: l, a, h => by
  have h1 := foldl_bd l (a + x) (fun y hy => h y (by simp [hy]))
  have h2 := h x (by simp)
  rw [List.foldl_cons, List.length_cons]
  simp only [Int.natCast_add, Int.natCast_one]
  omega
theorem foldl_take_succ (l : List Int) (j : Nat) (h : j < l.length) : (l.take (j + 1)).foldl (· + ·) 0 = (l.take j).foldl (· + ·) 0 + l[j] := by
 rw [List.take_succ_eq_append_getElem h, List.foldl_append]; rfl
set_option maxRecDepth 100000 in
set_option maxHeartbeats 1600000 in
theorem sum_any (v : Value) (l : List Int) (w : World) (hv : SlAt w 1 v l.length (ints l)) (hl : l.length ≤ 1000) (hb0 : ∀ x ∈ l, -1000000 ≤ x ∧ x ≤ 1000000) :
  Calls Tryz.prog 147 #[v] w fun e w' => e = .returned (.int .i64 (l.foldl (· + ·) 0)) ∧ Below w.heap.size w w' := by
 obtain ⟨ao, cap, rfl⟩ := hv.form
 have HV := hide hv
 have HB0 := hide hb0
 clear hv hb0
 go_enter Tryz.func147, Tryz.ntmps147
 go_wp2_with fail
 go_loopg [3, 8] l.length (fun g s i wr => ∃ j : Nat, j ≤ l.length ∧ g = l.length - j ∧ i = .int .i64 (j : Int) ∧ s = .int .i64 ((l.take j).foldl (· + ·) 0) ∧ Below w.heap.size w wr)
 case atStart => exact ⟨0, by omega, rfl, rfl, by simp, Below.refl _ _⟩
 case round =>
  obtain ⟨j, hj, hg, rfl, rfl, hb⟩ := hrel
  have A : Aside (gk = l.length - j ∧ Below w.heap.size w wr) := ⟨hg, hb⟩
  clear hg
  by_cases hlt : j < l.length
  ·rcases uh HV with ⟨h0, _⟩ | ⟨g, cap', hv, hc, hm, hgl, hx⟩
   ·omega
   simp only [Value.slice.injEq] at hv
   obtain ⟨rfl, _, rfl⟩ := hv
   have k0 : wr.cell? ⟨g, j, none⟩ = some (.int .i64 l[j]) := by
    rw [hb.cell (p := ⟨g, j, none⟩) hgl, hx j (by omega)]
    simp [ints, hlt]
   have HS := hide (foldl_take_succ l j hlt)
   have hbd := foldl_bd (l.take j) 0 (fun x hx => HB0.out x (List.mem_of_mem_take hx))
   have hln : (l.take j).length ≤ 1000 := by simp; omega
   have hxb := HB0.out l[j] (List.getElem_mem hlt)
   have hjc : (j : Int) < l.length := by omega
   generalize l[j] = x at *
   generalize (l.take j).foldl (· + ·) 0 = s at *
   have hs1 : -1000000000 ≤ s := by omega
   have hs2 : s ≤ 1000000000 := by omega
   clear hx hb hc hm hgl hbd
   go_wp2
   go_roundg (l.length - (j + 1))
   case measure => have := A.out.1; omega
   case rel => exact ⟨j + 1, by omega, rfl, by go_num, by rw [uh HS], A.out.2⟩
  ·have hje : j = l.length := by omega
   have HJ := hide hje
   have hjc : ¬ (j : Int) < l.length := by omega
   clear hje hb
   go_wp2
   go_ret
   refine ⟨?_, A.out.2⟩
   rw [uh HJ, List.take_length]
   rfl
theorem max_take_succ (l : List Int) (j : Nat) (h0 : 0 < l.length) (h : j + 1 < l.length) : (l.tail.take (j + 1)).foldl max l[0] = max ((l.tail.take j).foldl max l[0]) l[j + 1] := by
 rw [List.take_succ_eq_append_getElem (by simp; omega), List.foldl_append]
 simp
set_option maxRecDepth 100000 in
set_option maxHeartbeats 1600000 in
theorem max_any (v : Value) (l : List Int) (w : World) (hv : SlAt w 1 v l.length (ints l)) (hl : l.length ≤ 1000) (h0 : 0 < l.length) :
  Calls Tryz.prog 148 #[v] w fun e w' => e = .returned (.int .i64 (l.tail.foldl max l[0])) ∧ Below w.heap.size w w' := by
 rcases hv with ⟨h1, _⟩ | ⟨g, cap, rfl, hc, hm, hgl, hx⟩
 ·omega
 have c0 : w.cell? ⟨g, 0, none⟩ = some (.int .i64 l[0]) := by rw [hx 0 (by omega)]; simp [ints, h0]
 have hn1 : ¬ (l.length : Int) < 1 := by omega
 have HX := hide hx
 clear hx
 have hl1 : (0 : Int) < l.length := by omega
 go_enter Tryz.func148, Tryz.ntmps148
 go_wp2_with fail
 go_loopg [3, 4] l.length (fun g s i wr => ∃ j : Nat, j + 1 ≤ l.length ∧ g = l.length - j ∧ i = .int .i64 ((j : Int) + 1) ∧ s = .int .i64 ((l.tail.take j).foldl max l[0]) ∧ Below w.heap.size w wr)
 case atStart => exact ⟨0, by omega, rfl, by rfl, by simp, Below.refl _ _⟩
 case round =>
  obtain ⟨j, hj, hg, rfl, rfl, hb⟩ := hrel
  have A : Aside (gk = l.length - j ∧ Below w.heap.size w wr) := ⟨hg, hb⟩
  clear hg
  by_cases hlt : j + 1 < l.length
  ·have k0 : wr.cell? ⟨g, j + 1, none⟩ = some (.int .i64 l[j + 1]) := by
    rw [hb.cell (p := ⟨g, j + 1, none⟩) hgl, uh HX (j + 1) (by omega)]
    simp [ints, hlt]
   have HS := hide (max_take_succ l j h0 hlt)
   have hjc : (j : Int) + 1 < l.length := by omega
   have hj0 : (0 : Int) ≤ (j : Int) + 1 := by omega
   have htn : ((j : Int) + 1).toNat = j + 1 := by omega
   generalize l[j + 1] = x at *
   generalize (l.tail.take j).foldl max l[0] = s at *
   clear hb hc hm c0
   go_wp2
   go_roundg (l.length - (j + 1))
   case measure => have := A.out.1; omega
   case rel => exact ⟨j + 1, by omega, rfl, by go_num, by rw [uh HS], A.out.2⟩
  ·have hje : j + 1 = l.length := by omega
   have HJ := hide hje
   have hjc : ¬ (j : Int) + 1 < l.length := by omega
   clear hje hb
   go_wp2
   go_ret
   refine ⟨?_, A.out.2⟩
   rw [List.take_of_length_le (by have := uh HJ; simp; omega)]
   rfl
set_option maxHeartbeats 400000 in
theorem evnum_any (n : Int) (w : World) : Calls Tryz.prog 91 #[.int .i64 n] w fun e w' => e = .returned (.agg #[.int .i64 0, .int .i64 n]) ∧ Below w.heap.size w w' := by
 go_enter Tryz.func91, Tryz.ntmps91
 go_wp2
 refine bodyPost_ret (v := .agg #[.int .i64 0, .int .i64 n]) (by simp [results, Tryz.results91, go_sem]) rfl ⟨rfl, (Below.refl _ w).alloc (Nat.le_refl _) _⟩
theorem box2 {w : World} {N : Nat} {a b : Value} {T : TypeId} (h : w.heap[N]? = some (.cells #[a, b] T)) :
  (w.cell? ⟨N, 0, none⟩ = some a ∧ w.cell? ⟨N, 1, none⟩ = some b) ∧ w.frozen? ⟨N, 0, none⟩ = false ∧ w.frozen? ⟨N, 1, none⟩ = false := by
 simp [World.cell?, World.frozen?, h]
theorem box2_set {w : World} {N : Nat} {a b x y : Value} {T : TypeId} (h : w.heap[N]? = some (.cells #[a, b] T)) : ((w.setCell ⟨N, 0, none⟩ x).setCell ⟨N, 1, none⟩ y).heap[N]? = some (.cells #[x, y] T) := by
 rw [heap_set_same (heap_set_same h _)]; rfl
theorem box3 {w : World} {N : Nat} {a b c : Value} {T : TypeId} (h : w.heap[N]? = some (.cells #[a, b, c] T)) :
  (w.cell? ⟨N, 0, none⟩ = some a ∧ w.cell? ⟨N, 1, none⟩ = some b ∧ w.cell? ⟨N, 2, none⟩ = some c) ∧ w.frozen? ⟨N, 0, none⟩ = false ∧ w.frozen? ⟨N, 1, none⟩ = false ∧ w.frozen? ⟨N, 2, none⟩ = false := by
 simp [World.cell?, World.frozen?, h]
theorem box3_set {w : World} {N : Nat} {a b c x y z : Value} {T : TypeId} (h : w.heap[N]? = some (.cells #[a, b, c] T)) : (((w.setCell ⟨N, 0, none⟩ x).setCell ⟨N, 1, none⟩ y).setCell ⟨N, 2, none⟩ z).heap[N]? = some (.cells #[x, y, z] T) := by
 rw [heap_set_same (heap_set_same (heap_set_same h _) _)]; rfl
theorem below_set2 {w w' : World} {N : Nat} (x y : Value) (h : Below w.heap.size w w') (hN : w.heap.size ≤ N) : Below w.heap.size w ((w'.setCell ⟨N, 0, none⟩ x).setCell ⟨N, 1, none⟩ y) :=
 (h.setCell (p := ⟨N, 0, none⟩) hN _).setCell (p := ⟨N, 1, none⟩) hN _
theorem below_set3 {w w' : World} {N : Nat} (x y z : Value) (h : Below w.heap.size w w') (hN : w.heap.size ≤ N) : Below w.heap.size w (((w'.setCell ⟨N, 0, none⟩ x).setCell ⟨N, 1, none⟩ y).setCell ⟨N, 2, none⟩ z) :=
 (below_set2 x y h hN).setCell (p := ⟨N, 2, none⟩) hN _
end Go.Proofs.YtdgbmcbkbkbdoaaGreatDoor
namespace Go.Proofs.YtdgbmcbkbkbdoaaGreatDoor
open Go.RowKit
set_option maxRecDepth 100000 in
set_option maxHeartbeats 1600000 in
theorem decide_any (pol : Int) (v : Value) (l : List Int) (w : World) (hv : SlAt w 1 v l.length (ints l)) (hl : l.length ≤ 1000) (hb0 : ∀ x ∈ l, -1000000 ≤ x ∧ x ≤ 1000000) :
  Calls Tryz.prog 120 #[.int .u8 pol, v] w fun e w' => e = .returned (vv (decideP pol l)) ∧ Below w.heap.size w w' := by
 obtain ⟨ao, cap, rfl⟩ := hv.form
 have hbz : Below w.heap.size w (w.alloc (.cells #[.int .i64 0, .int .i64 0] 51)) := (Below.refl _ w).alloc (Nat.le_refl _) _
 have HV0 := hide hv
 have HV := hide (hv.below hbz)
 have HB0 := hide hb0
 have HZ := hide hbz
 have HN := hide (alloc_last w (.cells #[.int .i64 0, .int .i64 0] 51))
 clear hv hb0 hbz
 by_cases hS : pol = 83
 ·subst hS
  have HD : Hid (decideP 83 l = ⟨0, l.foldl (· + ·) 0⟩) := hide (by unfold decideP; rw [if_pos rfl])
  go_enter Tryz.func120, Tryz.ntmps120
  go_wp2_with fail
  refine (sum_any _ _ _ (uh HV) hl (uh HB0)).mono ?_
  rintro e w1 ⟨rfl, hb⟩
  have HB1 := hide hb
  clear hb
  go_wp2_with fail
  refine (evnum_any _ _).mono ?_
  rintro e w2 ⟨rfl, hb⟩
  have HB2 := hide (below_after (uh HB1) hb)
  clear hb
  have hN2 := ((uh HB2).block w.heap.size (by simp)).trans (uh HN)
  obtain ⟨⟨b0, b1⟩, f0, f1⟩ := box2 hN2
  have HN2 := hide hN2
  clear hN2
  go_wp2
  obtain ⟨⟨d0, d1⟩, _⟩ := box2 (box2_set (x := .int .i64 (decideP 83 l).kind) (y := .int .i64 (decideP 83 l).n) (uh HN2))
  rw [uh HD] at d0 d1
  refine bodyPost_ret (v := vv (decideP 83 l)) (by rw [uh HD]; simp [results, Tryz.results120, go_sem, d0, d1, vv]) rfl ⟨rfl, below_set2 _ _ (below_after (uh HZ) (uh HB2)) (Nat.le_refl _)⟩
 have gS : (pol == 83) = false := by simpa using hS
 by_cases hN : pol = 78
 ·subst hN
  have HD : Hid (decideP 78 l = ⟨0, l.length⟩) := hide (by unfold decideP; rw [if_neg (by decide), if_pos rfl])
  clear hS gS
  go_enter Tryz.func120, Tryz.ntmps120
  go_wp2_with fail
  refine (evnum_any _ _).mono ?_
  rintro e w2 ⟨rfl, hb⟩
  have HB2 := hide hb
  clear hb
  have hN2 := ((uh HB2).block w.heap.size (by simp)).trans (uh HN)
  obtain ⟨⟨b0, b1⟩, f0, f1⟩ := box2 hN2
  have HN2 := hide hN2
  clear hN2
  go_wp2
  obtain ⟨⟨d0, d1⟩, _⟩ := box2 (box2_set (x := .int .i64 (decideP 78 l).kind) (y := .int .i64 (decideP 78 l).n) (uh HN2))
  rw [uh HD] at d0 d1
  refine bodyPost_ret (v := vv (decideP 78 l)) (by rw [uh HD]; simp [results, Tryz.results120, go_sem, d0, d1, vv]) rfl ⟨rfl, below_set2 _ _ (below_after (uh HZ) (uh HB2)) (Nat.le_refl _)⟩
 have gN : (pol == 78) = false := by simpa using hN
 cases l with
 | nil =>
  have HD : Hid (decideP pol [] = ⟨1, 0⟩) := hide (by unfold decideP; rw [if_neg hS, if_neg hN])
  clear hS hN
  simp only [List.length_nil] at *
  go_enter Tryz.func120, Tryz.ntmps120
  go_wp2
  refine bodyPost_ret (v := vv (decideP pol [])) (by rw [uh HD]; simp [results, Tryz.results120, go_sem, vv]) rfl ⟨rfl, (Below.refl _ w).alloc (Nat.le_refl _) _⟩
 | cons x l =>
  have hlen : ((x :: l).length : Int) = (l.length : Int) + 1 := by simp
  have hn0 : (((l.length : Int) + 1) == 0) = false := by simp; omega
  have h00 : (0 : Int) < (l.length : Int) + 1 := by omega
  by_cases hP : pol = 80
  ·subst hP
   have HD : Hid (decideP 80 (x :: l) = ⟨0, l.foldl max x⟩) := hide (by unfold decideP; rw [if_neg (by decide), if_neg (by decide)]; simp)
   clear hS hN gS gN hlen
   go_enter Tryz.func120, Tryz.ntmps120
   go_wp2_with fail
   refine (max_any _ _ _ (uh HV) hl (by simp)).mono ?_
   rintro e w1 ⟨rfl, hb⟩
   have HB1 := hide hb
   clear hb
   go_wp2_with fail
   refine (evnum_any _ _).mono ?_
   rintro e w2 ⟨rfl, hb⟩
   have HB2 := hide (below_after (uh HB1) hb)
   clear hb
   have hN2 := ((uh HB2).block w.heap.size (by simp)).trans (uh HN)
   obtain ⟨⟨b0, b1⟩, f0, f1⟩ := box2 hN2
   have HN2 := hide hN2
   clear hN2
   go_wp2
   obtain ⟨⟨d0, d1⟩, _⟩ := box2 (box2_set (x := .int .i64 (decideP 80 (x :: l)).kind) (y := .int .i64 (decideP 80 (x :: l)).n) (uh HN2))
   rw [uh HD] at d0 d1
   refine bodyPost_ret (v := vv (decideP 80 (x :: l))) (by rw [uh HD]; simp [results, Tryz.results120, go_sem, d0, d1, vv]) rfl ⟨rfl, below_set2 _ _ (below_after (uh HZ) (uh HB2)) (Nat.le_refl _)⟩
  have gP : (pol == 80) = false := by simpa using hP
  rcases uh HV0 with ⟨h0, _⟩ | ⟨g, cap', hv, hc, hm, hgl, hx⟩
  ·simp at h0
  simp only [Value.slice.injEq] at hv
  obtain ⟨rfl, _, rfl⟩ := hv
  have c0 : w.cell? ⟨g, 0, none⟩ = some (.int .i64 x) := by rw [hx 0 (by simp)]; simp [ints]
  by_cases hU : pol = 85
  ·subst hU
   by_cases hl0 : l = []
   ·subst hl0
    have HD : Hid (decideP 85 [x] = ⟨0, x⟩) := hide (by unfold decideP; simp)
    clear hS hN hP gS gN gP hlen hx
    simp only [List.length_cons, List.length_nil] at *
    go_enter Tryz.func120, Tryz.ntmps120
    go_wp2_with fail
    refine (evnum_any _ _).mono ?_
    rintro e w2 ⟨rfl, hb⟩
    have HB2 := hide hb
    clear hb
    have hN2 := ((uh HB2).block w.heap.size (by simp)).trans (uh HN)
    obtain ⟨⟨b0, b1⟩, f0, f1⟩ := box2 hN2
    have HN2 := hide hN2
    clear hN2
    go_wp2
    obtain ⟨⟨d0, d1⟩, _⟩ := box2 (box2_set (x := .int .i64 (decideP 85 [x]).kind) (y := .int .i64 (decideP 85 [x]).n) (uh HN2))
    rw [uh HD] at d0 d1
    refine bodyPost_ret (v := vv (decideP 85 [x])) (by rw [uh HD]; simp [results, Tryz.results120, go_sem, d0, d1, vv]) rfl ⟨rfl, below_set2 _ _ (below_after (uh HZ) (uh HB2)) (Nat.le_refl _)⟩
   ·have HD : Hid (decideP 85 (x :: l) = ⟨2, 0⟩) := hide (by unfold decideP; simp [hl0])
    have hgt : (1 : Int) < (l.length : Int) + 1 := by
     have := List.length_pos_iff.2 hl0
     omega
    clear hS hN hP gS gN gP hlen hx hl0
    go_enter Tryz.func120, Tryz.ntmps120
    go_wp2
    refine bodyPost_ret (v := vv (decideP 85 (x :: l))) (by rw [uh HD]; simp [results, Tryz.results120, go_sem, vv]) rfl ⟨rfl, (Below.refl _ w).alloc (Nat.le_refl _) _⟩
  ·have gU : (pol == 85) = false := by simpa using hU
   have HD : Hid (decideP pol (x :: l) = ⟨0, x⟩) := hide (by unfold decideP; rw [if_neg hS, if_neg hN]; simp [hP, hU])
   clear hS hN hP hU hlen hx
   go_enter Tryz.func120, Tryz.ntmps120
   go_wp2_with fail
   refine (evnum_any _ _).mono ?_
   rintro e w2 ⟨rfl, hb⟩
   have HB2 := hide hb
   clear hb
   have hN2 := ((uh HB2).block w.heap.size (by simp)).trans (uh HN)
   obtain ⟨⟨b0, b1⟩, f0, f1⟩ := box2 hN2
   have HN2 := hide hN2
   clear hN2
   go_wp2
   obtain ⟨⟨d0, d1⟩, _⟩ := box2 (box2_set (x := .int .i64 (decideP pol (x :: l)).kind) (y := .int .i64 (decideP pol (x :: l)).n) (uh HN2))
   rw [uh HD] at d0 d1
   refine bodyPost_ret (v := vv (decideP pol (x :: l))) (by rw [uh HD]; simp [results, Tryz.results120, go_sem, d0, d1, vv]) rfl ⟨rfl, below_set2 _ _ (below_after (uh HZ) (uh HB2)) (Nat.le_refl _)⟩
end Go.Proofs.YtdgbmcbkbkbdoaaGreatDoor
namespace Go.Proofs.YtdgbmcbkbkbdoaaGreatDoor
open Go.RowKit
def intsZ (l : List Int) (n : Nat) : List Value := ints l ++ List.replicate (n - l.length) (.int .i64 0)
theorem made_ints (n : Nat) : madeCells #[Value.int .i64 0] n = (intsZ [] n).toArray := by
 unfold madeCells intsZ ints
 apply Array.ext
 ·simp
 ·intro i h1 h2
  simp [Nat.mod_one]
theorem intsZ_len {l : List Int} {n : Nat} (h : l.length ≤ n) : (intsZ l n).length = n := by simp [intsZ, ints]; omega
theorem intsZ_set {l : List Int} {n : Nat} (h : l.length < n) (x : Int) : (intsZ l n).toArray.setIfInBounds l.length (.int .i64 x) = (intsZ (l ++ [x]) n).toArray := by
 apply Array.toList_inj.1
 simp only [Array.toList_setIfInBounds]
 unfold intsZ ints
 rw [show n - l.length = (n - (l ++ [x]).length) + 1 by simp; omega, List.replicate_succ, List.set_append_right _ _ (by simp)]
 simp
theorem intsZ_full (l : List Int) : intsZ l l.length = ints l := by simp [intsZ]
theorem arr_cell {w : World} {g : Nat} {l : List Value} {T : TypeId} (h : w.heap[g]? = some (.cells l.toArray T)) (j : Nat) : w.cell? ⟨g, j, none⟩ = l[j]? ∧ w.frozen? ⟨g, j, none⟩ = false := by
 simp [World.cell?, World.frozen?, h]
theorem sl_of_arr {w : World} {g n cap : Nat} {size : Nat} {l : List Value} {T : TypeId} (h : w.heap[g]? = some (.cells l.toArray T)) (hc : n ≤ cap) (hm : cap ≤ maxLen) : SlAt w size (.slice (some ⟨g, 0, none⟩) n cap) n l :=
 Or.inr ⟨g, cap, rfl, hc, hm, lt_of_block h, fun j _ => (arr_cell h j).1⟩
theorem owns_of_arr {w : World} {g n cap size base : Nat} {l : List Value} {T : TypeId} (h : w.heap[g]? = some (.cells l.toArray T)) (hg : base ≤ g) (hn : n = cap) (hm : cap ≤ maxLen) (hl : l.length = n * size) : w.ownsRow base T size (.slice (some ⟨g, 0, none⟩) n cap) n l := by
 subst hn
 refine ⟨hl, Or.inr ⟨g, n, l.toArray, rfl, hg, h, Nat.le_refl _, hm, by simpa using hl, ?_⟩⟩
 rw [← hl]
 simp
theorem set3_keep {w : World} {N : Nat} {c : Array Value} {T e : TypeId} {base size n : Nat} {v : Value} {xs : List Value} (h : w.heap[N]? = some (.cells c T)) (hne : e ≠ T) (ho : w.ownsRow base e size v n xs) (x y z : Value) : (((w.setCell ⟨N, 0, none⟩ x).setCell ⟨N, 1, none⟩ y).setCell ⟨N, 2, none⟩ z).ownsRow base e size v n xs :=
 owns_keep ho (fun gg _ _ hg => by
  have hn : gg ≠ N := fun e' => by subst e'; rw [h] at hg; simp at hg; exact hne hg.2.symm
  rw [Below.heap_setCell _ _ _ _ hn, Below.heap_setCell _ _ _ _ hn, Below.heap_setCell _ _ _ _ hn])
set_option maxRecDepth 100000 in
set_option maxHeartbeats 3200000 in
theorem evtable_any (x : LItem) (vl : Value) (vs : List PVal) (w : World) (hx : ItemV w x) (hw : WfI x.it) (hwd : ∀ r ∈ x.it.rules, r.tests.length = x.it.cols.length) (hnb : ∀ r ∈ x.it.rules, -1000000 ≤ r.num ∧ r.num ≤ 1000000) (hvs : SlAt w 2 vl vs.length (vs.flatMap vcells)) (hvl : vs.length = x.it.cols.length) (hr8 : x.it.rules.length ≤ 8) (hc3 : x.it.cols.length ≤ 3) :
  Calls Tryz.prog 89 #[iv x.it x.cv x.rv, vl] w fun e w' => ∃ mv, e = .returned (.agg #[.int .i64 (tableP x.it vs).1.kind, .int .i64 (tableP x.it vs).1.n, mv]) ∧ Below w.heap.size w w' ∧ w'.ownsRow w.heap.size 3 1 mv (tableP x.it vs).2.length (nats (tableP x.it vs).2) := by
 obtain ⟨it, cv, rv0, zv⟩ := x
 obtain ⟨co, cc, hcv⟩ := hx.1.form
 obtain ⟨ro, rc, hrv⟩ := hx.2.2.1.form
 obtain ⟨vo, vc, hvv⟩ := hvs.form
 simp only at hcv hrv
 subst hcv hrv hvv
 simp only at hw hwd hnb hvl ⊢
 obtain ⟨w0, hw0⟩ : ∃ w0, w0 = ((w.alloc (.cells (icells it (.slice co it.cols.length cc) (.slice ro it.rules.length rc)) 114)).alloc (.cells #[.int .i64 0, .int .i64 0, .slice none 0 0] 123)) := ⟨_, rfl⟩
 have hb0 : Below w.heap.size w w0 := by rw [hw0]; exact ((Below.refl _ w).alloc (Nat.le_refl _) _).alloc (by simp) _
 have hN0 : w0.heap[w.heap.size]? = some (.cells (icells it (.slice co it.cols.length cc) (.slice ro it.rules.length rc)) 114) := by
  rw [hw0, Below.heap_alloc _ _ _ (by simp)]; exact alloc_last w _
 have hN1 : w0.heap[w.heap.size + 1]? = some (.cells #[.int .i64 0, .int .i64 0, .slice none 0 0] 123) := by
  rw [hw0]
  have := alloc_last (w.alloc (.cells (icells it (.slice co it.cols.length cc) (.slice ro it.rules.length rc)) 114)) (.cells #[.int .i64 0, .int .i64 0, .slice none 0 0] 123)
  simpa using this
 have HX := hide (hx.below hb0)
 have HVS := hide (hvs.below hb0)
 have HVL := hide hvl
 have HWd := hide hwd
 have HNB := hide hnb
 have HB0 := hide hb0
 have HN0 := hide hN0
 have HN1 := hide hN1
 have HW0 := hide hw0
 simp only at hr8 hc3
 have hvl1 : vs.length ≤ 3 := by omega
 have HWF := hide hw
 clear hx hvs hvl hwd hnb hb0 hN0 hN1 hw
 simp only [iv, icells] at hw0 ⊢
 have hmap : (zv.zip it.rules).map Prod.snd = it.rules := by
  have := (uh HX).2.1
  simp only at this
  exact List.map_snd_zip (by omega)
 have HMAP := hide hmap
 clear hmap
 go_enter Tryz.func89, Tryz.ntmps89
 go_wp2_with fail
 rw [← hw0]
 clear hw0
 have hzl : (zv.zip it.rules).length = it.rules.length := by have := (uh HX).2.1; simp at this ⊢; omega
 refine (met_any _ _ (zv.zip it.rules) vs _ (by rw [hzl]; exact (uh HX).2.2.1) (fun y hy => ⟨(uh HX).2.2.2 y hy, ?a1, ?a2⟩) (by omega) (uh HVS) (by omega)).mono ?_
 case a1 =>
  have h2 : y.2 ∈ it.rules := (List.of_mem_zip hy).2
  rw [uh HWd y.2 h2, uh HVL]
 case a2 => exact ((uh HWF).rules y.2 (List.of_mem_zip hy).2).tests
 rintro e w1 ⟨mv, rfl, hb1, hown⟩
 rw [uh HMAP] at hown
 obtain ⟨l, hl⟩ : ∃ l, metP it.rules vs = l := ⟨_, rfl⟩
 have hll : ∀ i ∈ l, i < it.rules.length := by rw [← hl]; exact metTo_lt (Nat.le_refl _)
 have hln : l.length ≤ 8 := by
  rw [← hl]
  have := metTo_len it.rules vs it.rules.length
  unfold metP; omega
 rw [hl] at hown
 have HL := hide hl
 have HLL := hide hll
 clear hl hll hzl
 obtain ⟨mo, mc, hmv⟩ := (SlAt.of_owns hown).form
 subst hmv
 have HM := hide (SlAt.of_owns hown)
 have HO := hide (owns_base hown (uh HB0).size)
 have HB1 := hide (below_after (uh HB0) hb1)
 have HX1 := hide ((uh HX).below hb1)
 have HN01 := hide ((hb1.block _ (lt_of_block (uh HN0))).trans (uh HN0))
 have HN11 := hide ((hb1.block _ (lt_of_block (uh HN1))).trans (uh HN1))
 obtain ⟨⟨c0, c1, c2, c3, c4, c5, c6⟩, f0, f1, f2, f3, f4, f5, f6⟩ := cells7 (uh HN01)
 have hs1 : w.heap.size < w1.heap.size := lt_of_block (uh HN01)
 have hs2 : w.heap.size + 1 < w1.heap.size := lt_of_block (uh HN11)
 clear hb1 hown HX HN0 HN1 HVS HB0
 have hmk := run_make_row' (P := Tryz.prog) 25 3 (.int .i64 0) 8 Tryz.underlying25 Tryz.info_int rfl .i64 .i64 l.length (by omega) (by omega)
 go_wp2_with fail
 rw [made_ints]
 go_loopg [18] l.length (fun g i wr => ∃ j : Nat, j ≤ l.length ∧ g = l.length - j ∧ i = .int .i64 (j : Int) ∧ Below w1.heap.size w1 wr ∧ wr.heap[w1.heap.size]? = some (.cells (intsZ (numsOf it.rules (l.take j)) l.length).toArray 3))
 case atStart => exact ⟨0, by omega, rfl, rfl, (Below.refl _ _).alloc (Nat.le_refl _) _, by simpa [numsOf] using alloc_last w1 (.cells (intsZ [] l.length).toArray 3)⟩
 case round =>
  obtain ⟨j, hj, hg, rfl, hb, harr⟩ := hrel
  have A : Aside (gk = l.length - j ∧ Below w1.heap.size w1 wr ∧ wr.heap[w1.heap.size]? = some (.cells (intsZ (numsOf it.rules (l.take j)) l.length).toArray 3)) := ⟨hg, hb, harr⟩
  have hnl : (numsOf it.rules (l.take j)).length = j := by simp [numsOf]; omega
  have c4r := (hb.cell (p := ⟨w.heap.size, 6, none⟩) hs1).trans c6
  have hs1r : w.heap.size < wr.heap.size := Nat.lt_of_lt_of_le hs1 hb.size
  clear hg
  by_cases hlt : j < l.length
  ·rcases (uh HM) with ⟨h0, _⟩ | ⟨g2, cap2, hv2, hc2, hm2, hgl2, hx2⟩
   ·omega
   simp only [Value.slice.injEq] at hv2
   obtain ⟨rfl, _, rfl⟩ := hv2
   have k0 : wr.cell? ⟨g2, j, none⟩ = some (.int .i64 (l[j] : Int)) := by
    rw [hb.cell (p := ⟨g2, j, none⟩) hgl2, hx2 j (by omega)]
    simp [nats, hlt]
   have hpl := uh HLL l[j] (List.getElem_mem hlt)
   have hns : numsOf it.rules (l.take (j + 1)) = numsOf it.rules (l.take j) ++ [numOf it.rules l[j]] := by
    rw [List.take_succ_eq_append_getElem hlt]; unfold numsOf; rw [List.map_append]; rfl
   generalize l[j] = p at *
   have hzp : p < (zv.zip it.rules).length := by have := (uh HX1).2.1; simp at this ⊢; omega
   rcases (uh HX1).2.2.1 with ⟨h0, _⟩ | ⟨g3, cap3, hv3, hc3, hm3, hgl3, hx3⟩
   ·simp only at h0; omega
   simp only [Value.slice.injEq] at hv3
   obtain ⟨rfl, _, rfl⟩ := hv3
   have k1 : wr.cell? ⟨g3, p * 2 + 1, none⟩ = some (.int .i64 (numOf it.rules p)) := by
    rw [hb.cell (p := ⟨g3, p * 2 + 1, none⟩) hgl3, hx3 _ (by simp only; omega)]
    have := flat_at zcells 2 (fun _ => rfl) (zv.zip it.rules) p 1 hzp (by omega)
    simp only [rcells_z]
    rw [this]
    simp [zcells, numOf, hpl]
   have k1' : wr.cell? ⟨g3, p * 2, none⟩ = some (zv.zip it.rules)[p].1 := by
    rw [hb.cell (p := ⟨g3, p * 2, none⟩) hgl3, hx3 _ (by simp only; omega)]
    have := flat_at zcells 2 (fun _ => rfl) (zv.zip it.rules) p 0 hzp (by omega)
    simp only [rcells_z]
    rw [Nat.add_zero] at this
    rw [this]
    simp [zcells]
   have hpc : (p : Int) < it.rules.length := by omega
   have hjc : (j : Int) < l.length := by omega
   generalize numOf it.rules p = x at *
   have HNS := hide hns
   have e0 : wr.cell? ⟨w1.heap.size, j, none⟩ = some (.int .i64 0) := by
    rw [(arr_cell harr j).1]
    unfold intsZ
    rw [List.getElem?_append_right (by simp [ints, hnl]), List.getElem?_replicate, if_pos (by simp [ints, hnl]; omega)]
   have e1 := (arr_cell harr j).2
   have hsw : w1.heap.size < wr.heap.size := lt_of_block harr
   have HSET : Hid ((wr.setCell ⟨w1.heap.size, j, none⟩ (.int .i64 x)).heap[w1.heap.size]? = some (.cells (intsZ (numsOf it.rules (l.take j) ++ [x]) l.length).toArray 3)) := hide (by
    rw [heap_set_same harr]
    have := intsZ_set (l := numsOf it.rules (l.take j)) (n := l.length) (by omega) x
    rw [hnl] at this
    rw [this])
   clear hx2 hx3 hc2 hm2 hc3 hm3 hb harr hns hpl hnl
   go_wp2_with fail
   go_roundg (l.length - (j + 1))
   case measure => have := A.out.1; omega
   case rel => exact ⟨j + 1, by omega, rfl, by go_num, A.out.2.1.setCell (p := ⟨w1.heap.size, j, none⟩) (Nat.le_refl _) _, by rw [uh HNS]; exact uh HSET⟩
  ·have hje : j = l.length := by omega
   have hjc : ¬ (j : Int) < l.length := by omega
   have hnum : (numsOf it.rules l).length = l.length := by simp [numsOf]
   have hsl : SlAt wr 1 (.slice (some ⟨w1.heap.size, 0, none⟩) l.length l.length) (numsOf it.rules l).length (ints (numsOf it.rules l)) := by
    rw [hje, List.take_length] at harr
    rw [show intsZ (numsOf it.rules l) l.length = ints (numsOf it.rules l) by rw [← hnum]; exact intsZ_full _] at harr
    rw [hnum]
    exact sl_of_arr harr (Nat.le_refl _) (by unfold maxLen; omega)
   have HSL := hide hsl
   have hnb : ∀ x ∈ numsOf it.rules l, -1000000 ≤ x ∧ x ≤ 1000000 := fun x hx => by
    unfold numsOf at hx
    rw [List.mem_map] at hx
    obtain ⟨i, hi, rfl⟩ := hx
    have := uh HLL i hi
    simp only [numOf, List.getElem?_eq_getElem this]
    exact uh HNB _ (List.getElem_mem this)
   have HNBS := hide hnb
   have c3r := (hb.cell (p := ⟨w.heap.size, 3, none⟩) hs1).trans c3
   have HN1r := hide ((hb.block _ hs2).trans (uh HN11))
   have HBr := hide (below_after (uh HB1) hb)
   have HMr := hide (owns_below (uh HO) hb)
   have hnum8 : (numsOf it.rules l).length ≤ 1000 := by omega
   have hs2r : w.heap.size + 1 < wr.heap.size := Nat.lt_of_lt_of_le hs2 hb.size
   clear hje hb harr hsl hnb hnl c4r
   go_wp2_with fail
   refine (decide_any _ _ (numsOf it.rules l) _ (uh HSL) hnum8 (uh HNBS)).mono ?_
   rintro e w2 ⟨rfl, hb2⟩
   have hN2 := (hb2.block _ hs2r).trans (uh HN1r)
   obtain ⟨⟨b0, b1, b2⟩, g0, g1, g2⟩ := box3 hN2
   have HN2 := hide hN2
   have HB2 := hide (below_after (uh HBr) hb2)
   have HM2 := hide (owns_below (uh HMr) hb2)
   have hs2w : w.heap.size + 1 < w2.heap.size := lt_of_block hN2
   clear hN2 hb2
   simp only [vv]
   go_wp2_with fail
   have hD : tableP it vs = (decideP it.policy (numsOf it.rules l), l) := by unfold tableP; rw [uh HL]
   rw [hD]
   generalize decideP it.policy (numsOf it.rules l) = d at *
   obtain ⟨⟨d0, d1, d2⟩, _⟩ := box3 (box3_set (x := .int .i64 d.kind) (y := .int .i64 d.n) (z := .slice mo l.length mc) (uh HN2))
   refine bodyPost_ret (v := .agg #[.int .i64 d.kind, .int .i64 d.n, .slice mo l.length mc]) (by simp [results, Tryz.results89, go_sem, d0, d1, d2]) rfl ⟨_, rfl, below_set3 _ _ _ (uh HB2) (by omega), ?_⟩
   exact set3_keep (uh HN2) (by decide) (uh HM2) _ _ _
end Go.Proofs.YtdgbmcbkbkbdoaaGreatDoor
