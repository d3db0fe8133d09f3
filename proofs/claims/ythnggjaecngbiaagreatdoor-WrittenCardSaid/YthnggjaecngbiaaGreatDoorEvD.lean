import Derived.Test.YthnggjaecngbiaaGreatDoorEvA
namespace Go.Proofs.YthnggjaecngbiaaGreatDoor
open Go.RowKit

theorem foldl_bd : ∀ (l : List Int) (a : Int), (∀ x ∈ l, -1000000 ≤ x ∧ x ≤ 1000000) → a - 1000000 * l.length ≤ l.foldl (· + ·) a ∧ l.foldl (· + ·) a ≤ a + 1000000 * l.length
  | [], a, _ => by simp
  | x :: l, a, h => by
    have h1 := foldl_bd l (a + x) (fun y hy => h y (by simp [hy]))
    have h2 := h x (by simp)
    rw [List.foldl_cons, List.length_cons]
    simp only [Int.natCast_add, Int.natCast_one]
    omega
theorem foldl_take_succ (l : List Int) (j : Nat) (h : j < l.length) : (l.take (j + 1)).foldl (· + ·) 0 = (l.take j).foldl (· + ·) 0 + l[j] := by
  rw [List.take_succ_eq_append_getElem h, List.foldl_append]; rfl

set_option maxRecDepth 100000 in
set_option maxHeartbeats 1600000 in
theorem sum_any (v : Value) (l : List Int) (w : World) (hv : SlAt w 1 v l.length (ints l)) (hl : l.length ≤ 1000) (hb0 : ∀ x ∈ l, -1000000 ≤ x ∧ x ≤ 1000000) :
    Calls Tryz.prog 163 #[v] w fun e w' => e = .returned (.int .i64 (l.foldl (· + ·) 0)) ∧ Below w.heap.size w w' := by
  obtain ⟨ao, cap, rfl⟩ := hv.form
  have HV := hide hv
  have HB0 := hide hb0
  clear hv hb0
  go_enter Tryz.func163, Tryz.ntmps163
  go_wp2_with fail
  go_loopg [3, 8] l.length (fun g s i wr => ∃ j : Nat, j ≤ l.length ∧ g = l.length - j ∧ i = .int .i64 (j : Int) ∧ s = .int .i64 ((l.take j).foldl (· + ·) 0) ∧ Below w.heap.size w wr)
  case atStart => exact ⟨0, by omega, rfl, rfl, by simp, Below.refl _ _⟩
  case round =>
    obtain ⟨j, hj, hg, rfl, rfl, hb⟩ := hrel
    have A : Aside (gk = l.length - j ∧ Below w.heap.size w wr) := ⟨hg, hb⟩
    clear hg
    by_cases hlt : j < l.length
    · rcases unhide HV with ⟨h0, _⟩ | ⟨g, cap', hv, hc, hm, hgl, hx⟩
      · omega
      simp only [Value.slice.injEq] at hv
      obtain ⟨rfl, _, rfl⟩ := hv
      have k0 : wr.cell? ⟨g, j, none⟩ = some (.int .i64 l[j]) := by
        rw [hb.cell (p := ⟨g, j, none⟩) hgl, hx j (by omega)]
        simp [ints, hlt]
      have HS := hide (foldl_take_succ l j hlt)
      have hbd := foldl_bd (l.take j) 0 (fun x hx => HB0.out x (List.mem_of_mem_take hx))
      have hln : (l.take j).length ≤ 1000 := by simp; omega
      have hxb := HB0.out l[j] (List.getElem_mem hlt)
      have hjc : (j : Int) < l.length := by omega
      generalize l[j] = x at *
      generalize (l.take j).foldl (· + ·) 0 = s at *
      have hs1 : -1000000000 ≤ s := by omega
      have hs2 : s ≤ 1000000000 := by omega
      clear hx hb hc hm hgl hbd
      go_wp2
      go_roundg (l.length - (j + 1))
      case measure => have := A.out.1; omega
      case rel => exact ⟨j + 1, by omega, rfl, by go_num, by rw [unhide HS], A.out.2⟩
    · have hje : j = l.length := by omega
      have HJ := hide hje
      have hjc : ¬ (j : Int) < l.length := by omega
      clear hje hb
      go_wp2
      go_ret
      refine ⟨?_, A.out.2⟩
      rw [unhide HJ, List.take_length]
      rfl

theorem max_take_succ (l : List Int) (j : Nat) (h0 : 0 < l.length) (h : j + 1 < l.length) : (l.tail.take (j + 1)).foldl max l[0] = max ((l.tail.take j).foldl max l[0]) l[j + 1] := by
  rw [List.take_succ_eq_append_getElem (by simp; omega), List.foldl_append]
  simp

set_option maxRecDepth 100000 in
set_option maxHeartbeats 1600000 in
theorem max_any (v : Value) (l : List Int) (w : World) (hv : SlAt w 1 v l.length (ints l)) (hl : l.length ≤ 1000) (h0 : 0 < l.length) :
    Calls Tryz.prog 164 #[v] w fun e w' => e = .returned (.int .i64 (l.tail.foldl max l[0])) ∧ Below w.heap.size w w' := by
  rcases hv with ⟨h1, _⟩ | ⟨g, cap, rfl, hc, hm, hgl, hx⟩
  · omega
  have c0 : w.cell? ⟨g, 0, none⟩ = some (.int .i64 l[0]) := by rw [hx 0 (by omega)]; simp [ints, h0]
  have hn1 : ¬ (l.length : Int) < 1 := by omega
  have HX := hide hx
  clear hx
  have hl1 : (0 : Int) < l.length := by omega
  go_enter Tryz.func164, Tryz.ntmps164
  go_wp2_with fail
  go_loopg [3, 4] l.length (fun g s i wr => ∃ j : Nat, j + 1 ≤ l.length ∧ g = l.length - j ∧ i = .int .i64 ((j : Int) + 1) ∧ s = .int .i64 ((l.tail.take j).foldl max l[0]) ∧ Below w.heap.size w wr)
  case atStart => exact ⟨0, by omega, rfl, by rfl, by simp, Below.refl _ _⟩
  case round =>
    obtain ⟨j, hj, hg, rfl, rfl, hb⟩ := hrel
    have A : Aside (gk = l.length - j ∧ Below w.heap.size w wr) := ⟨hg, hb⟩
    clear hg
    by_cases hlt : j + 1 < l.length
    · have k0 : wr.cell? ⟨g, j + 1, none⟩ = some (.int .i64 l[j + 1]) := by
        rw [hb.cell (p := ⟨g, j + 1, none⟩) hgl, unhide HX (j + 1) (by omega)]
        simp [ints, hlt]
      have HS := hide (max_take_succ l j h0 hlt)
      have hjc : (j : Int) + 1 < l.length := by omega
      have hj0 : (0 : Int) ≤ (j : Int) + 1 := by omega
      have htn : ((j : Int) + 1).toNat = j + 1 := by omega
      generalize l[j + 1] = x at *
      generalize (l.tail.take j).foldl max l[0] = s at *
      clear hb hc hm c0
      go_wp2
      go_roundg (l.length - (j + 1))
      case measure => have := A.out.1; omega
      case rel => exact ⟨j + 1, by omega, rfl, by go_num, by rw [unhide HS], A.out.2⟩
    · have hje : j + 1 = l.length := by omega
      have HJ := hide hje
      have hjc : ¬ (j : Int) + 1 < l.length := by omega
      clear hje hb
      go_wp2
      go_ret
      refine ⟨?_, A.out.2⟩
      rw [List.take_of_length_le (by have := unhide HJ; simp; omega)]
      rfl

set_option maxHeartbeats 400000 in
theorem evnum_any (n : Int) (w : World) : Calls Tryz.prog 100 #[.int .i64 n] w fun e w' => e = .returned (.agg #[.int .i64 0, .int .i64 n]) ∧ Below w.heap.size w w' := by
  go_enter Tryz.func100, Tryz.ntmps100
  go_wp2
  refine bodyPost_ret (v := .agg #[.int .i64 0, .int .i64 n]) (by simp [results, Tryz.results100, go_sem]) rfl ⟨rfl, (Below.refl _ w).alloc (Nat.le_refl _) _⟩

theorem box2 {w : World} {N : Nat} {a b : Value} {T : TypeId} (h : w.heap[N]? = some (.cells #[a, b] T)) :
    (w.cell? ⟨N, 0, none⟩ = some a ∧ w.cell? ⟨N, 1, none⟩ = some b) ∧ w.frozen? ⟨N, 0, none⟩ = false ∧ w.frozen? ⟨N, 1, none⟩ = false := by
  simp [World.cell?, World.frozen?, h]
theorem box2_set {w : World} {N : Nat} {a b x y : Value} {T : TypeId} (h : w.heap[N]? = some (.cells #[a, b] T)) : ((w.setCell ⟨N, 0, none⟩ x).setCell ⟨N, 1, none⟩ y).heap[N]? = some (.cells #[x, y] T) := by
  rw [heap_set_same (heap_set_same h _)]; rfl
theorem box3 {w : World} {N : Nat} {a b c : Value} {T : TypeId} (h : w.heap[N]? = some (.cells #[a, b, c] T)) :
    (w.cell? ⟨N, 0, none⟩ = some a ∧ w.cell? ⟨N, 1, none⟩ = some b ∧ w.cell? ⟨N, 2, none⟩ = some c) ∧ w.frozen? ⟨N, 0, none⟩ = false ∧ w.frozen? ⟨N, 1, none⟩ = false ∧ w.frozen? ⟨N, 2, none⟩ = false := by
  simp [World.cell?, World.frozen?, h]
theorem box3_set {w : World} {N : Nat} {a b c x y z : Value} {T : TypeId} (h : w.heap[N]? = some (.cells #[a, b, c] T)) : (((w.setCell ⟨N, 0, none⟩ x).setCell ⟨N, 1, none⟩ y).setCell ⟨N, 2, none⟩ z).heap[N]? = some (.cells #[x, y, z] T) := by
  rw [heap_set_same (heap_set_same (heap_set_same h _) _)]; rfl
theorem below_set2 {w w' : World} {N : Nat} (x y : Value) (h : Below w.heap.size w w') (hN : w.heap.size ≤ N) : Below w.heap.size w ((w'.setCell ⟨N, 0, none⟩ x).setCell ⟨N, 1, none⟩ y) :=
  (h.setCell (p := ⟨N, 0, none⟩) hN _).setCell (p := ⟨N, 1, none⟩) hN _
theorem below_set3 {w w' : World} {N : Nat} (x y z : Value) (h : Below w.heap.size w w') (hN : w.heap.size ≤ N) : Below w.heap.size w (((w'.setCell ⟨N, 0, none⟩ x).setCell ⟨N, 1, none⟩ y).setCell ⟨N, 2, none⟩ z) :=
  (below_set2 x y h hN).setCell (p := ⟨N, 2, none⟩) hN _
end Go.Proofs.YthnggjaecngbiaaGreatDoor

namespace Go.Proofs.YthnggjaecngbiaaGreatDoor
open Go.RowKit

set_option maxRecDepth 100000 in
set_option maxHeartbeats 1600000 in
theorem decide_any (pol : Int) (v : Value) (l : List Int) (w : World) (hv : SlAt w 1 v l.length (ints l)) (hl : l.length ≤ 1000) (hb0 : ∀ x ∈ l, -1000000 ≤ x ∧ x ≤ 1000000) :
    Calls Tryz.prog 132 #[.int .u8 pol, v] w fun e w' => e = .returned (vv (decideP pol l)) ∧ Below w.heap.size w w' := by
  obtain ⟨ao, cap, rfl⟩ := hv.form
  have hbz : Below w.heap.size w (w.alloc (.cells #[.int .i64 0, .int .i64 0] 51)) := (Below.refl _ w).alloc (Nat.le_refl _) _
  have HV0 := hide hv
  have HV := hide (hv.below hbz)
  have HB0 := hide hb0
  have HZ := hide hbz
  have HN := hide (alloc_last w (.cells #[.int .i64 0, .int .i64 0] 51))
  clear hv hb0 hbz
  by_cases hS : pol = 83
  · subst hS
    have HD : Hid (decideP 83 l = ⟨0, l.foldl (· + ·) 0⟩) := hide (by unfold decideP; rw [if_pos rfl])
    go_enter Tryz.func132, Tryz.ntmps132
    go_wp2_with fail
    refine (sum_any _ _ _ (unhide HV) hl (unhide HB0)).mono ?_
    rintro e w1 ⟨rfl, hb⟩
    have HB1 := hide hb
    clear hb
    go_wp2_with fail
    refine (evnum_any _ _).mono ?_
    rintro e w2 ⟨rfl, hb⟩
    have HB2 := hide (below_after (unhide HB1) hb)
    clear hb
    have hN2 := ((unhide HB2).block w.heap.size (by simp)).trans (unhide HN)
    obtain ⟨⟨b0, b1⟩, f0, f1⟩ := box2 hN2
    have HN2 := hide hN2
    clear hN2
    go_wp2
    obtain ⟨⟨d0, d1⟩, _⟩ := box2 (box2_set (x := .int .i64 (decideP 83 l).kind) (y := .int .i64 (decideP 83 l).n) (unhide HN2))
    rw [unhide HD] at d0 d1
    refine bodyPost_ret (v := vv (decideP 83 l)) (by rw [unhide HD]; simp [results, Tryz.results132, go_sem, d0, d1, vv]) rfl ⟨rfl, below_set2 _ _ (below_after (unhide HZ) (unhide HB2)) (Nat.le_refl _)⟩
  have gS : (pol == 83) = false := by simpa using hS
  by_cases hN : pol = 78
  · subst hN
    have HD : Hid (decideP 78 l = ⟨0, l.length⟩) := hide (by unfold decideP; rw [if_neg (by decide), if_pos rfl])
    clear hS gS
    go_enter Tryz.func132, Tryz.ntmps132
    go_wp2_with fail
    refine (evnum_any _ _).mono ?_
    rintro e w2 ⟨rfl, hb⟩
    have HB2 := hide hb
    clear hb
    have hN2 := ((unhide HB2).block w.heap.size (by simp)).trans (unhide HN)
    obtain ⟨⟨b0, b1⟩, f0, f1⟩ := box2 hN2
    have HN2 := hide hN2
    clear hN2
    go_wp2
    obtain ⟨⟨d0, d1⟩, _⟩ := box2 (box2_set (x := .int .i64 (decideP 78 l).kind) (y := .int .i64 (decideP 78 l).n) (unhide HN2))
    rw [unhide HD] at d0 d1
    refine bodyPost_ret (v := vv (decideP 78 l)) (by rw [unhide HD]; simp [results, Tryz.results132, go_sem, d0, d1, vv]) rfl ⟨rfl, below_set2 _ _ (below_after (unhide HZ) (unhide HB2)) (Nat.le_refl _)⟩
  have gN : (pol == 78) = false := by simpa using hN
  cases l with
  | nil =>
    have HD : Hid (decideP pol [] = ⟨1, 0⟩) := hide (by unfold decideP; rw [if_neg hS, if_neg hN])
    clear hS hN
    simp only [List.length_nil] at *
    go_enter Tryz.func132, Tryz.ntmps132
    go_wp2
    refine bodyPost_ret (v := vv (decideP pol [])) (by rw [unhide HD]; simp [results, Tryz.results132, go_sem, vv]) rfl ⟨rfl, (Below.refl _ w).alloc (Nat.le_refl _) _⟩
  | cons x l =>
    have hlen : ((x :: l).length : Int) = (l.length : Int) + 1 := by simp
    have hn0 : (((l.length : Int) + 1) == 0) = false := by simp; omega
    have h00 : (0 : Int) < (l.length : Int) + 1 := by omega
    by_cases hP : pol = 80
    · subst hP
      have HD : Hid (decideP 80 (x :: l) = ⟨0, l.foldl max x⟩) := hide (by unfold decideP; rw [if_neg (by decide), if_neg (by decide)]; simp)
      clear hS hN gS gN hlen
      go_enter Tryz.func132, Tryz.ntmps132
      go_wp2_with fail
      refine (max_any _ _ _ (unhide HV) hl (by simp)).mono ?_
      rintro e w1 ⟨rfl, hb⟩
      have HB1 := hide hb
      clear hb
      go_wp2_with fail
      refine (evnum_any _ _).mono ?_
      rintro e w2 ⟨rfl, hb⟩
      have HB2 := hide (below_after (unhide HB1) hb)
      clear hb
      have hN2 := ((unhide HB2).block w.heap.size (by simp)).trans (unhide HN)
      obtain ⟨⟨b0, b1⟩, f0, f1⟩ := box2 hN2
      have HN2 := hide hN2
      clear hN2
      go_wp2
      obtain ⟨⟨d0, d1⟩, _⟩ := box2 (box2_set (x := .int .i64 (decideP 80 (x :: l)).kind) (y := .int .i64 (decideP 80 (x :: l)).n) (unhide HN2))
      rw [unhide HD] at d0 d1
      refine bodyPost_ret (v := vv (decideP 80 (x :: l))) (by rw [unhide HD]; simp [results, Tryz.results132, go_sem, d0, d1, vv]) rfl ⟨rfl, below_set2 _ _ (below_after (unhide HZ) (unhide HB2)) (Nat.le_refl _)⟩
    have gP : (pol == 80) = false := by simpa using hP
    rcases unhide HV0 with ⟨h0, _⟩ | ⟨g, cap', hv, hc, hm, hgl, hx⟩
    · simp at h0
    simp only [Value.slice.injEq] at hv
    obtain ⟨rfl, _, rfl⟩ := hv
    have c0 : w.cell? ⟨g, 0, none⟩ = some (.int .i64 x) := by rw [hx 0 (by simp)]; simp [ints]
    by_cases hU : pol = 85
    · subst hU
      by_cases hl0 : l = []
      · subst hl0
        have HD : Hid (decideP 85 [x] = ⟨0, x⟩) := hide (by unfold decideP; simp)
        clear hS hN hP gS gN gP hlen hx
        simp only [List.length_cons, List.length_nil] at *
        go_enter Tryz.func132, Tryz.ntmps132
        go_wp2_with fail
        refine (evnum_any _ _).mono ?_
        rintro e w2 ⟨rfl, hb⟩
        have HB2 := hide hb
        clear hb
        have hN2 := ((unhide HB2).block w.heap.size (by simp)).trans (unhide HN)
        obtain ⟨⟨b0, b1⟩, f0, f1⟩ := box2 hN2
        have HN2 := hide hN2
        clear hN2
        go_wp2
        obtain ⟨⟨d0, d1⟩, _⟩ := box2 (box2_set (x := .int .i64 (decideP 85 [x]).kind) (y := .int .i64 (decideP 85 [x]).n) (unhide HN2))
        rw [unhide HD] at d0 d1
        refine bodyPost_ret (v := vv (decideP 85 [x])) (by rw [unhide HD]; simp [results, Tryz.results132, go_sem, d0, d1, vv]) rfl ⟨rfl, below_set2 _ _ (below_after (unhide HZ) (unhide HB2)) (Nat.le_refl _)⟩
      · have HD : Hid (decideP 85 (x :: l) = ⟨2, 0⟩) := hide (by unfold decideP; simp [hl0])
        have hgt : (1 : Int) < (l.length : Int) + 1 := by
          have := List.length_pos_iff.2 hl0
          omega
        clear hS hN hP gS gN gP hlen hx hl0
        go_enter Tryz.func132, Tryz.ntmps132
        go_wp2
        refine bodyPost_ret (v := vv (decideP 85 (x :: l))) (by rw [unhide HD]; simp [results, Tryz.results132, go_sem, vv]) rfl ⟨rfl, (Below.refl _ w).alloc (Nat.le_refl _) _⟩
    · have gU : (pol == 85) = false := by simpa using hU
      have HD : Hid (decideP pol (x :: l) = ⟨0, x⟩) := hide (by unfold decideP; rw [if_neg hS, if_neg hN]; simp [hP, hU])
      clear hS hN hP hU hlen hx
      go_enter Tryz.func132, Tryz.ntmps132
      go_wp2_with fail
      refine (evnum_any _ _).mono ?_
      rintro e w2 ⟨rfl, hb⟩
      have HB2 := hide hb
      clear hb
      have hN2 := ((unhide HB2).block w.heap.size (by simp)).trans (unhide HN)
      obtain ⟨⟨b0, b1⟩, f0, f1⟩ := box2 hN2
      have HN2 := hide hN2
      clear hN2
      go_wp2
      obtain ⟨⟨d0, d1⟩, _⟩ := box2 (box2_set (x := .int .i64 (decideP pol (x :: l)).kind) (y := .int .i64 (decideP pol (x :: l)).n) (unhide HN2))
      rw [unhide HD] at d0 d1
      refine bodyPost_ret (v := vv (decideP pol (x :: l))) (by rw [unhide HD]; simp [results, Tryz.results132, go_sem, d0, d1, vv]) rfl ⟨rfl, below_set2 _ _ (below_after (unhide HZ) (unhide HB2)) (Nat.le_refl _)⟩
end Go.Proofs.YthnggjaecngbiaaGreatDoor

