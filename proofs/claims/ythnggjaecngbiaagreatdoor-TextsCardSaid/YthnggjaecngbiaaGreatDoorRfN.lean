import Derived.Test.YthnggjaecngbiaaGreatDoorRfM
import Derived.Laws.BytesArg
namespace Go.Proofs.YthnggjaecngbiaaGreatDoor
open Go.RowKit
theorem conv_one (c : Int) (w : World) (n : Nat) (hn : n = w.heap.size) : (convert 59 9 (.slice (some ⟨n, 0, none⟩) 1 1)).run Tryz.prog (w.alloc (.cells #[.int .u8 c] 5)) = .ok (.string ⟨#[u8 c]⟩) (w.alloc (.cells #[.int .u8 c] 5)) := by
 subst hn
 have h := run_convert_bytes_arg (P := Tryz.prog) (w.alloc (.cells #[.int .u8 c] 5)) 59 5 Tryz.underlying59 Tryz.underlying5 w.heap.size 0 1 1 [c] rfl (fun i hi => by
  obtain rfl : i = 0 := by omega
  have := alloc_last w (.cells #[.int .u8 c] 5)
  unfold World.cell?
  rw [this]
  rfl) 9 Tryz.underlying9
 exact h
theorem conv_at (c : Int) (w : World) (b : Nat) (h : w.heap[b]? = some (.cells #[.int .u8 c] 5)) : (convert 59 9 (.slice (some ⟨b, 0, none⟩) 1 1)).run Tryz.prog w = .ok (.string ⟨#[u8 c]⟩) w := by
 have h := run_convert_bytes_arg (P := Tryz.prog) w 59 5 Tryz.underlying59 Tryz.underlying5 b 0 1 1 [c] rfl (fun i hi => by
  obtain rfl : i = 0 := by omega
  unfold World.cell?
  rw [h]
  rfl) 9 Tryz.underlying9
 exact h
theorem dd_small {u : Nat} (h : u < 10) : Lib.decDigits u = [u8 (48 + (u : Int) % 10)] := by
 rw [Lib.decDigits, dif_pos h]
 unfold u8
 congr 2 <;> omega
theorem dd_big {u : Nat} (h : ¬ u < 10) : Lib.decDigits u = Lib.decDigits (u / 10) ++ [u8 (48 + (u : Int) % 10)] := by
 rw [Lib.decDigits, dif_neg h]
 unfold u8
 congr 3 <;> omega
set_option maxRecDepth 100000 in
set_option maxHeartbeats 1600000 in
theorem rdig_nat : ∀ (k u : Nat) (w : World), u < k → u ≤ 9999999 →
  Calls Tryz.prog 114 #[.int .i64 (u : Int)] w fun e w' => e = .returned (.string ⟨(Lib.decDigits u).toArray⟩) ∧ Below w.heap.size w w' := by
 intro k
 induction k with
 | zero =>
  intro u w h _
  omega
 | succ k ih =>
  intro u w h hu
  have h0 : ¬ (u : Int) < 0 := by omega
  have hcv := conv_one (48 + (u : Int) % 10) w _ rfl
  by_cases h1 : u < 10
  ·have h1b : (u : Int) < 10 := by omega
   go_enter Tryz.func114, Tryz.ntmps114
   go_wp2_with fail
   go_ret
   exact ⟨by rw [dd_small h1]; rfl, (Below.refl _ w).alloc (Nat.le_refl _) _⟩
  ·have h1b : ¬ (u : Int) < 10 := by omega
   have hdl := dd_len 6 (u / 10) (by have : (10 : Nat) ^ (6 + 1) = 10000000 := by decide
                                     omega)
   go_enter Tryz.func114, Tryz.ntmps114
   go_wp2_with fail
   rw [show (u : Int) / 10 = ((u / 10 : Nat) : Int) by omega]
   refine (ih (u / 10) _ (by omega) (by omega)).mono ?_
   rintro e w1 ⟨rfl, hb⟩
   obtain ⟨d1, hd1⟩ : ∃ d : ByteArray, (⟨(Lib.decDigits (u / 10)).toArray⟩ : ByteArray) = d := ⟨_, rfl⟩
   have hs1 : d1.size ≤ 8 := by rw [← hd1]; show (Lib.decDigits (u / 10)).toArray.size ≤ 8; rw [List.size_toArray]; omega
   rw [hd1]
   have HD1 : Hid (d1.data.toList = Lib.decDigits (u / 10)) := hide (by rw [← hd1])
   have HB := hide (below_after ((Below.refl _ w).alloc (Nat.le_refl _) _) hb)
   clear hb hd1 hcv
   go_wp2_with fail
   go_ret
   refine ⟨ret_str ?_, uh HB⟩
   rw [dd_big h1]
   simp [uh HD1]
set_option maxRecDepth 100000 in
set_option maxHeartbeats 1600000 in
theorem rdigits_any (n : Int) (w : World) (h : -9999999 ≤ n) (h' : n ≤ 9999999) :
  Calls Tryz.prog 114 #[.int .i64 n] w fun e w' => e = .returned (.string ⟨(Lib.itoa n).toArray⟩) ∧ Below w.heap.size w w' := by
 by_cases hn : n < 0
 ·have en : -n = ((n.natAbs : Nat) : Int) := by omega
  have hdl := dd_len 6 n.natAbs (by have : (10 : Nat) ^ (6 + 1) = 10000000 := by decide
                                    omega)
  go_enter Tryz.func114, Tryz.ntmps114
  go_wp2_with fail
  refine (rdig_nat (n.natAbs + 1) n.natAbs _ (by omega) (by omega)).mono ?_
  rintro e w1 ⟨rfl, hb⟩
  obtain ⟨d1, hd1⟩ : ∃ d : ByteArray, (⟨(Lib.decDigits n.natAbs).toArray⟩ : ByteArray) = d := ⟨_, rfl⟩
  have hs1 : d1.size ≤ 8 := by rw [← hd1]; show (Lib.decDigits n.natAbs).toArray.size ≤ 8; rw [List.size_toArray]; omega
  rw [hd1]
  have HD1 : Hid (d1.data.toList = Lib.decDigits n.natAbs) := hide (by rw [← hd1])
  have HB := hide hb
  clear hb hd1
  go_wp2_with fail
  go_ret
  refine ⟨ret_str ?_, uh HB⟩
  unfold Lib.itoa
  rw [if_pos hn]
  simp [uh HD1]
 ·obtain ⟨u, rfl⟩ : ∃ u : Nat, n = (u : Int) := ⟨n.toNat, by omega⟩
  have e : Lib.itoa (u : Int) = Lib.decDigits u := by unfold Lib.itoa; rw [if_neg hn]; rfl
  rw [e]
  exact rdig_nat (u + 1) u w (by omega) (by omega)
set_option maxRecDepth 100000 in
set_option maxHeartbeats 6400000 in
theorem rletters_any (m : Nat) (w : World) (hm : m ≤ 7) :
  Calls Tryz.prog 112 #[.int .i64 (m : Int)] w fun e w' => e = .returned (.string ⟨(markOut m 3).toArray⟩) ∧ Below w.heap.size w w' := by
 rcases (by omega : m = 0 ∨ m = 1 ∨ m = 2 ∨ m = 3 ∨ m = 4 ∨ m = 5 ∨ m = 6 ∨ m = 7) with e | e | e | e | e | e | e | e
 ·subst e
  clear hm
  go_enter Tryz.func112, Tryz.ntmps112
  go_wp2_with fail
  go_loopg [3, 4] 3 (fun g sv i wr => ∃ j : Nat, j ≤ 3 ∧ g = 3 - j ∧ i = .int .i64 (j : Int) ∧ sv = .string ⟨(markOut 0 j).toArray⟩ ∧ Below w.heap.size w wr)
  case atStart => exact ⟨0, by omega, rfl, rfl, rfl, Below.refl _ _⟩
  case round =>
   obtain ⟨j, hj, hg, rfl, rfl, hb⟩ := hrel
   have HB := hide hb
   have hcv := fun c => conv_one c wr _ rfl
   clear hb
   rcases (by omega : j = 0 ∨ j = 1 ∨ j = 2 ∨ j = 3) with e | e | e | e
   all_goals
    subst e
    clear hj
    simp only [markOut]
    go_wp2_with fail
   ·go_roundg 2
    case measure => omega
    case rel => exact ⟨1, by omega, rfl, rfl, rfl, by first | exact uh HB | exact below_after (uh HB) ((Below.refl _ wr).alloc (Nat.le_refl _) _)⟩
   ·go_roundg 1
    case measure => omega
    case rel => exact ⟨2, by omega, rfl, rfl, rfl, by first | exact uh HB | exact below_after (uh HB) ((Below.refl _ wr).alloc (Nat.le_refl _) _)⟩
   ·go_roundg 0
    case measure => omega
    case rel => exact ⟨3, by omega, rfl, rfl, rfl, by first | exact uh HB | exact below_after (uh HB) ((Below.refl _ wr).alloc (Nat.le_refl _) _)⟩
   ·go_ret
    exact ⟨rfl, uh HB⟩
 ·subst e
  clear hm
  go_enter Tryz.func112, Tryz.ntmps112
  go_wp2_with fail
  go_loopg [3, 4] 3 (fun g sv i wr => ∃ j : Nat, j ≤ 3 ∧ g = 3 - j ∧ i = .int .i64 (j : Int) ∧ sv = .string ⟨(markOut 1 j).toArray⟩ ∧ Below w.heap.size w wr)
  case atStart => exact ⟨0, by omega, rfl, rfl, rfl, Below.refl _ _⟩
  case round =>
   obtain ⟨j, hj, hg, rfl, rfl, hb⟩ := hrel
   have HB := hide hb
   have hcv := fun c => conv_one c wr _ rfl
   clear hb
   rcases (by omega : j = 0 ∨ j = 1 ∨ j = 2 ∨ j = 3) with e | e | e | e
   all_goals
    subst e
    clear hj
    simp only [markOut]
    go_wp2_with fail
   ·go_roundg 2
    case measure => omega
    case rel => exact ⟨1, by omega, rfl, rfl, rfl, by first | exact uh HB | exact below_after (uh HB) ((Below.refl _ wr).alloc (Nat.le_refl _) _)⟩
   ·go_roundg 1
    case measure => omega
    case rel => exact ⟨2, by omega, rfl, rfl, rfl, by first | exact uh HB | exact below_after (uh HB) ((Below.refl _ wr).alloc (Nat.le_refl _) _)⟩
   ·go_roundg 0
    case measure => omega
    case rel => exact ⟨3, by omega, rfl, rfl, rfl, by first | exact uh HB | exact below_after (uh HB) ((Below.refl _ wr).alloc (Nat.le_refl _) _)⟩
   ·go_ret
    exact ⟨rfl, uh HB⟩
 ·subst e
  clear hm
  go_enter Tryz.func112, Tryz.ntmps112
  go_wp2_with fail
  go_loopg [3, 4] 3 (fun g sv i wr => ∃ j : Nat, j ≤ 3 ∧ g = 3 - j ∧ i = .int .i64 (j : Int) ∧ sv = .string ⟨(markOut 2 j).toArray⟩ ∧ Below w.heap.size w wr)
  case atStart => exact ⟨0, by omega, rfl, rfl, rfl, Below.refl _ _⟩
  case round =>
   obtain ⟨j, hj, hg, rfl, rfl, hb⟩ := hrel
   have HB := hide hb
   have hcv := fun c => conv_one c wr _ rfl
   clear hb
   rcases (by omega : j = 0 ∨ j = 1 ∨ j = 2 ∨ j = 3) with e | e | e | e
   all_goals
    subst e
    clear hj
    simp only [markOut]
    go_wp2_with fail
   ·go_roundg 2
    case measure => omega
    case rel => exact ⟨1, by omega, rfl, rfl, rfl, by first | exact uh HB | exact below_after (uh HB) ((Below.refl _ wr).alloc (Nat.le_refl _) _)⟩
   ·go_roundg 1
    case measure => omega
    case rel => exact ⟨2, by omega, rfl, rfl, rfl, by first | exact uh HB | exact below_after (uh HB) ((Below.refl _ wr).alloc (Nat.le_refl _) _)⟩
   ·go_roundg 0
    case measure => omega
    case rel => exact ⟨3, by omega, rfl, rfl, rfl, by first | exact uh HB | exact below_after (uh HB) ((Below.refl _ wr).alloc (Nat.le_refl _) _)⟩
   ·go_ret
    exact ⟨rfl, uh HB⟩
 ·subst e
  clear hm
  go_enter Tryz.func112, Tryz.ntmps112
  go_wp2_with fail
  go_loopg [3, 4] 3 (fun g sv i wr => ∃ j : Nat, j ≤ 3 ∧ g = 3 - j ∧ i = .int .i64 (j : Int) ∧ sv = .string ⟨(markOut 3 j).toArray⟩ ∧ Below w.heap.size w wr)
  case atStart => exact ⟨0, by omega, rfl, rfl, rfl, Below.refl _ _⟩
  case round =>
   obtain ⟨j, hj, hg, rfl, rfl, hb⟩ := hrel
   have HB := hide hb
   have hcv := fun c => conv_one c wr _ rfl
   clear hb
   rcases (by omega : j = 0 ∨ j = 1 ∨ j = 2 ∨ j = 3) with e | e | e | e
   all_goals
    subst e
    clear hj
    simp only [markOut]
    go_wp2_with fail
   ·go_roundg 2
    case measure => omega
    case rel => exact ⟨1, by omega, rfl, rfl, rfl, by first | exact uh HB | exact below_after (uh HB) ((Below.refl _ wr).alloc (Nat.le_refl _) _)⟩
   ·go_roundg 1
    case measure => omega
    case rel => exact ⟨2, by omega, rfl, rfl, rfl, by first | exact uh HB | exact below_after (uh HB) ((Below.refl _ wr).alloc (Nat.le_refl _) _)⟩
   ·go_roundg 0
    case measure => omega
    case rel => exact ⟨3, by omega, rfl, rfl, rfl, by first | exact uh HB | exact below_after (uh HB) ((Below.refl _ wr).alloc (Nat.le_refl _) _)⟩
   ·go_ret
    exact ⟨rfl, uh HB⟩
 ·subst e
  clear hm
  go_enter Tryz.func112, Tryz.ntmps112
  go_wp2_with fail
  go_loopg [3, 4] 3 (fun g sv i wr => ∃ j : Nat, j ≤ 3 ∧ g = 3 - j ∧ i = .int .i64 (j : Int) ∧ sv = .string ⟨(markOut 4 j).toArray⟩ ∧ Below w.heap.size w wr)
  case atStart => exact ⟨0, by omega, rfl, rfl, rfl, Below.refl _ _⟩
  case round =>
   obtain ⟨j, hj, hg, rfl, rfl, hb⟩ := hrel
   have HB := hide hb
   have hcv := fun c => conv_one c wr _ rfl
   clear hb
   rcases (by omega : j = 0 ∨ j = 1 ∨ j = 2 ∨ j = 3) with e | e | e | e
   all_goals
    subst e
    clear hj
    simp only [markOut]
    go_wp2_with fail
   ·go_roundg 2
    case measure => omega
    case rel => exact ⟨1, by omega, rfl, rfl, rfl, by first | exact uh HB | exact below_after (uh HB) ((Below.refl _ wr).alloc (Nat.le_refl _) _)⟩
   ·go_roundg 1
    case measure => omega
    case rel => exact ⟨2, by omega, rfl, rfl, rfl, by first | exact uh HB | exact below_after (uh HB) ((Below.refl _ wr).alloc (Nat.le_refl _) _)⟩
   ·go_roundg 0
    case measure => omega
    case rel => exact ⟨3, by omega, rfl, rfl, rfl, by first | exact uh HB | exact below_after (uh HB) ((Below.refl _ wr).alloc (Nat.le_refl _) _)⟩
   ·go_ret
    exact ⟨rfl, uh HB⟩
 ·subst e
  clear hm
  go_enter Tryz.func112, Tryz.ntmps112
  go_wp2_with fail
  go_loopg [3, 4] 3 (fun g sv i wr => ∃ j : Nat, j ≤ 3 ∧ g = 3 - j ∧ i = .int .i64 (j : Int) ∧ sv = .string ⟨(markOut 5 j).toArray⟩ ∧ Below w.heap.size w wr)
  case atStart => exact ⟨0, by omega, rfl, rfl, rfl, Below.refl _ _⟩
  case round =>
   obtain ⟨j, hj, hg, rfl, rfl, hb⟩ := hrel
   have HB := hide hb
   have hcv := fun c => conv_one c wr _ rfl
   clear hb
   rcases (by omega : j = 0 ∨ j = 1 ∨ j = 2 ∨ j = 3) with e | e | e | e
   all_goals
    subst e
    clear hj
    simp only [markOut]
    go_wp2_with fail
   ·go_roundg 2
    case measure => omega
    case rel => exact ⟨1, by omega, rfl, rfl, rfl, by first | exact uh HB | exact below_after (uh HB) ((Below.refl _ wr).alloc (Nat.le_refl _) _)⟩
   ·go_roundg 1
    case measure => omega
    case rel => exact ⟨2, by omega, rfl, rfl, rfl, by first | exact uh HB | exact below_after (uh HB) ((Below.refl _ wr).alloc (Nat.le_refl _) _)⟩
   ·go_roundg 0
    case measure => omega
    case rel => exact ⟨3, by omega, rfl, rfl, rfl, by first | exact uh HB | exact below_after (uh HB) ((Below.refl _ wr).alloc (Nat.le_refl _) _)⟩
   ·go_ret
    exact ⟨rfl, uh HB⟩
 ·subst e
  clear hm
  go_enter Tryz.func112, Tryz.ntmps112
  go_wp2_with fail
  go_loopg [3, 4] 3 (fun g sv i wr => ∃ j : Nat, j ≤ 3 ∧ g = 3 - j ∧ i = .int .i64 (j : Int) ∧ sv = .string ⟨(markOut 6 j).toArray⟩ ∧ Below w.heap.size w wr)
  case atStart => exact ⟨0, by omega, rfl, rfl, rfl, Below.refl _ _⟩
  case round =>
   obtain ⟨j, hj, hg, rfl, rfl, hb⟩ := hrel
   have HB := hide hb
   have hcv := fun c => conv_one c wr _ rfl
   clear hb
   rcases (by omega : j = 0 ∨ j = 1 ∨ j = 2 ∨ j = 3) with e | e | e | e
   all_goals
    subst e
    clear hj
    simp only [markOut]
    go_wp2_with fail
   ·go_roundg 2
    case measure => omega
    case rel => exact ⟨1, by omega, rfl, rfl, rfl, by first | exact uh HB | exact below_after (uh HB) ((Below.refl _ wr).alloc (Nat.le_refl _) _)⟩
   ·go_roundg 1
    case measure => omega
    case rel => exact ⟨2, by omega, rfl, rfl, rfl, by first | exact uh HB | exact below_after (uh HB) ((Below.refl _ wr).alloc (Nat.le_refl _) _)⟩
   ·go_roundg 0
    case measure => omega
    case rel => exact ⟨3, by omega, rfl, rfl, rfl, by first | exact uh HB | exact below_after (uh HB) ((Below.refl _ wr).alloc (Nat.le_refl _) _)⟩
   ·go_ret
    exact ⟨rfl, uh HB⟩
 ·subst e
  clear hm
  go_enter Tryz.func112, Tryz.ntmps112
  go_wp2_with fail
  go_loopg [3, 4] 3 (fun g sv i wr => ∃ j : Nat, j ≤ 3 ∧ g = 3 - j ∧ i = .int .i64 (j : Int) ∧ sv = .string ⟨(markOut 7 j).toArray⟩ ∧ Below w.heap.size w wr)
  case atStart => exact ⟨0, by omega, rfl, rfl, rfl, Below.refl _ _⟩
  case round =>
   obtain ⟨j, hj, hg, rfl, rfl, hb⟩ := hrel
   have HB := hide hb
   have hcv := fun c => conv_one c wr _ rfl
   clear hb
   rcases (by omega : j = 0 ∨ j = 1 ∨ j = 2 ∨ j = 3) with e | e | e | e
   all_goals
    subst e
    clear hj
    simp only [markOut]
    go_wp2_with fail
   ·go_roundg 2
    case measure => omega
    case rel => exact ⟨1, by omega, rfl, rfl, rfl, by first | exact uh HB | exact below_after (uh HB) ((Below.refl _ wr).alloc (Nat.le_refl _) _)⟩
   ·go_roundg 1
    case measure => omega
    case rel => exact ⟨2, by omega, rfl, rfl, rfl, by first | exact uh HB | exact below_after (uh HB) ((Below.refl _ wr).alloc (Nat.le_refl _) _)⟩
   ·go_roundg 0
    case measure => omega
    case rel => exact ⟨3, by omega, rfl, rfl, rfl, by first | exact uh HB | exact below_after (uh HB) ((Below.refl _ wr).alloc (Nat.le_refl _) _)⟩
   ·go_ret
    exact ⟨rfl, uh HB⟩
end Go.Proofs.YthnggjaecngbiaaGreatDoor
