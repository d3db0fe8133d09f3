import Derived.Test.YthnggjaecngbiaaDoorCkF
import Derived.Test.YthnggjaecngbiaaDoorWfA
import Derived.Test.YthnggjaecngbiaaDoorBld
namespace Go.Proofs.YthnggjaecngbiaaDoor
open Go.RowKit

def u8 (c : Int) : UInt8 := UInt8.ofNat c.toNat
theorem u8_nat {c : Int} (h0 : 0 ≤ c) (h1 : c ≤ 255) : ((u8 c).toNat : Int) = c := by
  unfold u8
  rw [UInt8.toNat_ofNat']
  omega

/-- The builder in block b holds l; nothing of W0 has turned. -/
structure WInv (W0 : World) (b : Nat) (l : List UInt8) (w : World) : Prop where
  bl : Below W0.heap.size W0 w
  bd : Lib.IsBuilderF 43 5 W0.heap.size b (Lib.byteCells l) w

theorem WInv.blk {W0 : World} {b : Nat} {l : List UInt8} {w : World} (h : WInv W0 b l w) : W0.heap.size ≤ b ∧ b < w.heap.size := by
  rcases h.bd with hb | hb
  · exact ⟨hb.1, hb.lt⟩
  · exact ⟨hb.1, hb.lt⟩
theorem bat_below {T e : TypeId} {B b : Nat} {p : Value} {bs : List Value} {w w' : World} (h : Lib.BuilderAtF T e B b p bs w) (g : Below w.heap.size w w') : Lib.BuilderAtF T e B b p bs w' := by
  have hl := h.lt
  obtain ⟨hB, v, hb, hown, hne⟩ := h
  refine ⟨hB, v, by rw [g.block b hl]; exact hb, ⟨hown.1, ?_⟩, hne⟩
  rcases hown.2 with hn | ⟨gg, cap, cur, fz, hv, hbg, hg, rest⟩
  · exact .inl hn
  · exact .inr ⟨gg, cap, cur, fz, hv, hbg, by rw [g.block gg (lt_of_block hg)]; exact hg, rest⟩
theorem WInv.below {W0 : World} {b : Nat} {l : List UInt8} {w w' : World} (h : WInv W0 b l w) (g : Below w.heap.size w w') : WInv W0 b l w' :=
  ⟨h.bl.trans (g.mono h.bl.size), h.bd.elim (fun x => Or.inl (bat_below x g)) (fun x => Or.inr (bat_below x g))⟩
theorem others_below {e : TypeId} {b : Option Nat} {w w' : World} (g : Below w.heap.size w w') : Lib.OthersKept e b w w' := fun k o hk _ _ => by
  rw [g.block k (lt_of_block hk)]; exact hk

theorem wb_any {W0 : World} {b : Nat} {l : List UInt8} {w : World} (c : Int) (h : WInv W0 b l w) (hl : l.length ≤ 130000000000000) (h0 : 0 ≤ c) (h1 : c ≤ 255) :
    Calls Tryd.prog 16 #[.pointer (some ⟨b, 0, none⟩), .int .u8 c] w fun e w' => e = .returned .nilIface ∧ WInv W0 b (l ++ [u8 c]) w' ∧ Lib.OthersKept 5 (some b) w w' := by
  refine (writeByte_any W0.heap.size b (Lib.byteCells l) c w h.bd (by rw [Lib.byteCells_length]; omega) h.bl.size).mono ?_
  rintro e w' ⟨he, h2, h3, h4⟩
  refine ⟨he, ⟨h.bl.trans h3, Or.inr ?_⟩, h4⟩
  have : Lib.byteCells (l ++ [u8 c]) = Lib.byteCells l ++ [.int .u8 c] := by
    rw [Lib.byteCells_append]
    simp only [Lib.byteCells, List.map_cons, List.map_nil]
    rw [u8_nat h0 h1]
  rw [this]; exact h2
theorem ws_any {W0 : World} {b : Nat} {l : List UInt8} {w : World} (s : ByteArray) (h : WInv W0 b l w) (hl : l.length ≤ 130000000000000) (hs : s.size ≤ 1000000000) :
    Calls Tryd.prog 22 #[.pointer (some ⟨b, 0, none⟩), .string s] w fun e w' => e = .returned (.tuple #[.int .i64 s.size, .nilIface]) ∧ WInv W0 b (l ++ s.data.toList) w' ∧ Lib.OthersKept 5 (some b) w w' := by
  refine (writeString_any W0.heap.size b (Lib.byteCells l) s w h.bd (by rw [Lib.byteCells_length]; omega) h.bl.size).mono ?_
  rintro e w' ⟨he, h2, h3, h4⟩
  refine ⟨he, ⟨h.bl.trans h3, Or.inr ?_⟩, h4⟩
  rw [Lib.byteCells_append, ← Lib.strCells_eq]; exact h2

def Box (N : Nat) (c : Array Value) (T : TypeId) (w : World) : Prop := w.heap[N]? = some (.cells c T)
theorem Box.kept {N b : Nat} {c : Array Value} {T : TypeId} {w w' : World} (h : Box N c T w) (g : Lib.OthersKept 5 (some b) w w') (hN : N ≠ b) (hT : T ≠ 5) : Box N c T w' :=
  g N _ h (fun e => hN (by simpa using e)) (fun c' fz e => by simp at e; exact hT e.2.1)

/-- The letters of a set of marks, from the i-th on. -/
def markOut (m : Nat) : Nat → List UInt8
  | 0 => []
  | 1 => (if m % 2 = 1 then [97] else [])
  | 2 => (if m % 2 = 1 then [97] else []) ++ (if m / 2 % 2 = 1 then [98] else [])
  | _ => (if m % 2 = 1 then [97] else []) ++ (if m / 2 % 2 = 1 then [98] else []) ++ (if m / 4 % 2 = 1 then [99] else [])
def marksOut (sign : Int) (m : Nat) : List UInt8 := if m = 0 then [] else [u8 sign] ++ markOut m 3

theorem markOut_len (m j : Nat) : (markOut m j).length ≤ 3 := by
  unfold markOut
  split
  · simp
  all_goals (repeat' split) <;> simp
theorem bit1 {m : Nat} (h : m ≤ 7) : (bits BinOp.and IntKind.i64 (m : Int) 1 != 0) = decide (m % 2 = 1) := by
  rcases (by omega : m = 0 ∨ m = 1 ∨ m = 2 ∨ m = 3 ∨ m = 4 ∨ m = 5 ∨ m = 6 ∨ m = 7) with e | e | e | e | e | e | e | e <;> subst e <;> rfl
theorem bit2 {m : Nat} (h : m ≤ 7) : (bits BinOp.and IntKind.i64 (m : Int) 2 != 0) = decide (m / 2 % 2 = 1) := by
  rcases (by omega : m = 0 ∨ m = 1 ∨ m = 2 ∨ m = 3 ∨ m = 4 ∨ m = 5 ∨ m = 6 ∨ m = 7) with e | e | e | e | e | e | e | e <;> subst e <;> rfl
theorem bit4 {m : Nat} (h : m ≤ 7) : (bits BinOp.and IntKind.i64 (m : Int) 4 != 0) = decide (m / 4 % 2 = 1) := by
  rcases (by omega : m = 0 ∨ m = 1 ∨ m = 2 ∨ m = 3 ∨ m = 4 ∨ m = 5 ∨ m = 6 ∨ m = 7) with e | e | e | e | e | e | e | e <;> subst e <;> rfl

set_option maxRecDepth 100000 in
set_option maxHeartbeats 3200000 in
theorem writeMarks_any {W0 : World} {b : Nat} {l : List UInt8} {w : World} (sign : Int) (m : Nat) (h : WInv W0 b l w) (hl : l.length ≤ 120000000000000) (h0 : 0 ≤ sign) (h1 : sign ≤ 255) (hm : m ≤ 7) :
    Calls Tryd.prog 24 #[.pointer (some ⟨b, 0, none⟩), .int .u8 sign, .int .i64 (m : Int)] w fun e w' => e = .returned (.tuple #[]) ∧ WInv W0 b (l ++ marksOut sign m) w' ∧ Lib.OthersKept 5 (some b) w w' := by
  have HW := hide h
  clear h
  by_cases hz : m = 0
  · subst hz
    go_enter Tryd.func24, Tryd.ntmps24
    go_wp2_with fail
    refine bodyPost_ret (results_none rfl _ _ _) rfl ?_
    exact ⟨rfl, by simpa [marksOut] using unhide HW, Lib.OthersKept.refl _ _ _⟩
  · have hzb : ((m : Int) == 0) = false := by rw [beq_eq_false_iff_ne]; omega
    have HZ := hide hz
    clear hz
    go_enter Tryd.func24, Tryd.ntmps24
    go_wp2_with (go_at_call 16; refine (wb_any _ (by exact unhide HW) (by omega) h0 h1).mono ?_; rintro e w1 ⟨rfl, hw1, ho1⟩; have HW1 := hide hw1; have HO1 := hide ho1; clear hw1 ho1)
    go_loopg [12] 4 (fun g i wr => ∃ j : Nat, j ≤ 3 ∧ g = 4 - j ∧ i = .int .i64 (j : Int) ∧ WInv W0 b (l ++ [u8 sign] ++ markOut m j) wr ∧ Lib.OthersKept 5 (some b) w wr)
    case atStart => exact ⟨0, by omega, rfl, rfl, by simpa [markOut] using unhide HW1, unhide HO1⟩
    case round =>
      obtain ⟨j, hj, hg, rfl, hwi, hok⟩ := hrel
      have A : Aside (gk = 4 - j ∧ WInv W0 b (l ++ [u8 sign] ++ markOut m j) wr ∧ Lib.OthersKept 5 (some b) w wr) := ⟨hg, hwi, hok⟩
      clear hg hwi hok HW1 HO1 HW
      rcases (by omega : j = 0 ∨ j = 1 ∨ j = 2 ∨ j = 3) with e | e | e | e
      all_goals subst e
      all_goals try clear hj
      case inl =>
        have hbit := bit1 hm
        have hlm := markOut_len m 0
        by_cases hc : m % 2 = 1
        · rw [decide_eq_true hc] at hbit
          have HC := hide hc
          clear hc
          go_wp2_with fail
          refine (wb_any 97 A.out.2.1 (by simp; omega) (by simp) (by simp)).mono ?_
          rintro e w2 ⟨rfl, hw2, ho2⟩
          have HW2 := hide hw2
          have HO2 := hide (A.out.2.2.trans ho2)
          clear hw2 ho2
          go_wp2
          go_roundg (4 - 1)
          case measure => have := A.out.1; omega
          case rel =>
            refine ⟨1, by omega, rfl, rfl, ?_, unhide HO2⟩
            have h9 := unhide HW2
            have e9 : markOut m 1 = markOut m 0 ++ [u8 97] := by simp only [markOut]; rw [if_pos (unhide HC)]; rfl
            rw [e9]; simpa using h9
        · rw [decide_eq_false hc] at hbit
          have HC := hide hc
          clear hc
          go_wp2_with fail
          go_roundg (4 - 1)
          case measure => have := A.out.1; omega
          case rel =>
            refine ⟨1, by omega, rfl, rfl, ?_, A.out.2.2⟩
            have e9 : markOut m 1 = markOut m 0 := by simp only [markOut]; rw [if_neg (unhide HC)]; try simp
            rw [e9]; exact A.out.2.1
      case inr.inl =>
        have hbit := bit2 hm
        have hlm := markOut_len m 1
        by_cases hc : m / 2 % 2 = 1
        · rw [decide_eq_true hc] at hbit
          have HC := hide hc
          clear hc
          go_wp2_with fail
          refine (wb_any 98 A.out.2.1 (by simp; omega) (by simp) (by simp)).mono ?_
          rintro e w2 ⟨rfl, hw2, ho2⟩
          have HW2 := hide hw2
          have HO2 := hide (A.out.2.2.trans ho2)
          clear hw2 ho2
          go_wp2
          go_roundg (4 - 2)
          case measure => have := A.out.1; omega
          case rel =>
            refine ⟨2, by omega, rfl, rfl, ?_, unhide HO2⟩
            have h9 := unhide HW2
            have e9 : markOut m 2 = markOut m 1 ++ [u8 98] := by simp only [markOut]; rw [if_pos (unhide HC)]; rfl
            rw [e9]; simpa using h9
        · rw [decide_eq_false hc] at hbit
          have HC := hide hc
          clear hc
          go_wp2_with fail
          go_roundg (4 - 2)
          case measure => have := A.out.1; omega
          case rel =>
            refine ⟨2, by omega, rfl, rfl, ?_, A.out.2.2⟩
            have e9 : markOut m 2 = markOut m 1 := by simp only [markOut]; rw [if_neg (unhide HC)]; try simp
            rw [e9]; exact A.out.2.1
      case inr.inr.inl =>
        have hbit := bit4 hm
        have hlm := markOut_len m 2
        by_cases hc : m / 4 % 2 = 1
        · rw [decide_eq_true hc] at hbit
          have HC := hide hc
          clear hc
          go_wp2_with fail
          refine (wb_any 99 A.out.2.1 (by simp; omega) (by simp) (by simp)).mono ?_
          rintro e w2 ⟨rfl, hw2, ho2⟩
          have HW2 := hide hw2
          have HO2 := hide (A.out.2.2.trans ho2)
          clear hw2 ho2
          go_wp2
          go_roundg (4 - 3)
          case measure => have := A.out.1; omega
          case rel =>
            refine ⟨3, by omega, rfl, rfl, ?_, unhide HO2⟩
            have h9 := unhide HW2
            have e9 : markOut m 3 = markOut m 2 ++ [u8 99] := by simp only [markOut]; rw [if_pos (unhide HC)]; rfl
            rw [e9]; simpa using h9
        · rw [decide_eq_false hc] at hbit
          have HC := hide hc
          clear hc
          go_wp2_with fail
          go_roundg (4 - 3)
          case measure => have := A.out.1; omega
          case rel =>
            refine ⟨3, by omega, rfl, rfl, ?_, A.out.2.2⟩
            have e9 : markOut m 3 = markOut m 2 := by simp only [markOut]; rw [if_neg (unhide HC)]; try simp
            rw [e9]; exact A.out.2.1
      case inr.inr.inr =>
        go_wp2_with fail
        go_end0
        refine ⟨rfl, ?_, A.out.2.2⟩
        unfold marksOut
        rw [if_neg (unhide HZ)]
        have := A.out.2.1
        simpa using this

end Go.Proofs.YthnggjaecngbiaaDoor
