import Derived.Test.YthnggjaecngbiaaGreatDoorCkE
import Derived.Test.YthnggjaecngbiaaGreatDoorWfA
namespace Go.Proofs.YthnggjaecngbiaaGreatDoor
open Go.RowKit

def u8 (c : Int) : UInt8 := UInt8.ofNat c.toNat
theorem u8_nat {c : Int} (h0 : 0 ≤ c) (h1 : c ≤ 255) : ((u8 c).toNat : Int) = c := by
  unfold u8
  rw [UInt8.toNat_ofNat']
  omega

/-- The builder in block b holds l; nothing of W0 has turned. -/
structure WInv (W0 : World) (b : Nat) (l : List UInt8) (w : World) : Prop where
  bl : Below W0.heap.size W0 w
  bd : Lib.IsBuilderF 116 5 W0.heap.size b (Lib.byteCells l) w

theorem WInv.blk {W0 : World} {b : Nat} {l : List UInt8} {w : World} (h : WInv W0 b l w) : W0.heap.size ≤ b ∧ b < w.heap.size := by
  rcases h.bd with hb | hb
  · exact ⟨hb.1, hb.lt⟩
  · exact ⟨hb.1, hb.lt⟩
theorem bat_below {T e : TypeId} {B b : Nat} {p : Value} {bs : List Value} {w w' : World} (h : Lib.BuilderAtF T e B b p bs w) (g : Below w.heap.size w w') : Lib.BuilderAtF T e B b p bs w' := by
  have hl := h.lt
  obtain ⟨hB, v, hb, hown, hne⟩ := h
  refine ⟨hB, v, by rw [g.block b hl]; exact hb, ⟨hown.1, ?_⟩, hne⟩
  rcases hown.2 with hn | ⟨gg, cap, cur, fz, hv, hbg, hg, rest⟩
  · exact .inl hn
  · exact .inr ⟨gg, cap, cur, fz, hv, hbg, by rw [g.block gg (lt_of_block hg)]; exact hg, rest⟩
theorem WInv.below {W0 : World} {b : Nat} {l : List UInt8} {w w' : World} (h : WInv W0 b l w) (g : Below w.heap.size w w') : WInv W0 b l w' :=
  ⟨h.bl.trans (g.mono h.bl.size), h.bd.elim (fun x => Or.inl (bat_below x g)) (fun x => Or.inr (bat_below x g))⟩
theorem others_below {e : TypeId} {b : Option Nat} {w w' : World} (g : Below w.heap.size w w') : Lib.OthersKept e b w w' := fun k o hk _ _ => by
  rw [g.block k (lt_of_block hk)]; exact hk

theorem wb_any {W0 : World} {b : Nat} {l : List UInt8} {w : World} (c : Int) (h : WInv W0 b l w) (hl : l.length ≤ 130000000000000) (h0 : 0 ≤ c) (h1 : c ≤ 255) :
    Calls Tryz.prog 65 #[.pointer (some ⟨b, 0, none⟩), .int .u8 c] w fun e w' => e = .returned .nilIface ∧ WInv W0 b (l ++ [u8 c]) w' ∧ Lib.OthersKept 5 (some b) w w' := by
  refine (writeByte_any W0.heap.size b (Lib.byteCells l) c w h.bd (by rw [Lib.byteCells_length]; omega) h.bl.size).mono ?_
  rintro e w' ⟨he, h2, h3, h4⟩
  refine ⟨he, ⟨h.bl.trans h3, Or.inr ?_⟩, h4⟩
  have : Lib.byteCells (l ++ [u8 c]) = Lib.byteCells l ++ [.int .u8 c] := by
    rw [Lib.byteCells_append]
    simp only [Lib.byteCells, List.map_cons, List.map_nil]
    rw [u8_nat h0 h1]
  rw [this]; exact h2
theorem ws_any {W0 : World} {b : Nat} {l : List UInt8} {w : World} (s : ByteArray) (h : WInv W0 b l w) (hl : l.length ≤ 130000000000000) (hs : s.size ≤ 1000000000) :
    Calls Tryz.prog 70 #[.pointer (some ⟨b, 0, none⟩), .string s] w fun e w' => e = .returned (.tuple #[.int .i64 s.size, .nilIface]) ∧ WInv W0 b (l ++ s.data.toList) w' ∧ Lib.OthersKept 5 (some b) w w' := by
  refine (writeString_any W0.heap.size b (Lib.byteCells l) s w h.bd (by rw [Lib.byteCells_length]; omega) h.bl.size).mono ?_
  rintro e w' ⟨he, h2, h3, h4⟩
  refine ⟨he, ⟨h.bl.trans h3, Or.inr ?_⟩, h4⟩
  rw [Lib.byteCells_append, ← Lib.strCells_eq]; exact h2

def Box (N : Nat) (c : Array Value) (T : TypeId) (w : World) : Prop := w.heap[N]? = some (.cells c T)
theorem Box.kept {N b : Nat} {c : Array Value} {T : TypeId} {w w' : World} (h : Box N c T w) (g : Lib.OthersKept 5 (some b) w w') (hN : N ≠ b) (hT : T ≠ 5) : Box N c T w' :=
  g N _ h (fun e => hN (by simpa using e)) (fun c' fz e => by simp at e; exact hT e.2.1)

/-- The letters of a set of marks, from the i-th on. -/
def markOut (m : Nat) : Nat → List UInt8
  | 0 => []
  | 1 => (if m % 2 = 1 then [97] else [])
  | 2 => (if m % 2 = 1 then [97] else []) ++ (if m / 2 % 2 = 1 then [98] else [])
  | _ => (if m % 2 = 1 then [97] else []) ++ (if m / 2 % 2 = 1 then [98] else []) ++ (if m / 4 % 2 = 1 then [99] else [])
def marksOut (sign : Int) (m : Nat) : List UInt8 := if m = 0 then [] else [u8 sign] ++ markOut m 3

theorem markOut_len (m j : Nat) : (markOut m j).length ≤ 3 := by
  unfold markOut
  split
  · simp
  all_goals (repeat' split) <;> simp
theorem bit1 {m : Nat} (h : m ≤ 7) : (bits BinOp.and IntKind.i64 (m : Int) 1 != 0) = decide (m % 2 = 1) := by
  rcases (by omega : m = 0 ∨ m = 1 ∨ m = 2 ∨ m = 3 ∨ m = 4 ∨ m = 5 ∨ m = 6 ∨ m = 7) with e | e | e | e | e | e | e | e <;> subst e <;> rfl
theorem bit2 {m : Nat} (h : m ≤ 7) : (bits BinOp.and IntKind.i64 (m : Int) 2 != 0) = decide (m / 2 % 2 = 1) := by
  rcases (by omega : m = 0 ∨ m = 1 ∨ m = 2 ∨ m = 3 ∨ m = 4 ∨ m = 5 ∨ m = 6 ∨ m = 7) with e | e | e | e | e | e | e | e <;> subst e <;> rfl
theorem bit4 {m : Nat} (h : m ≤ 7) : (bits BinOp.and IntKind.i64 (m : Int) 4 != 0) = decide (m / 4 % 2 = 1) := by
  rcases (by omega : m = 0 ∨ m = 1 ∨ m = 2 ∨ m = 3 ∨ m = 4 ∨ m = 5 ∨ m = 6 ∨ m = 7) with e | e | e | e | e | e | e | e <;> subst e <;> rfl

set_option maxRecDepth 100000 in
set_option maxHeartbeats 3200000 in
theorem writeMarks_any {W0 : World} {b : Nat} {l : List UInt8} {w : World} (sign : Int) (m : Nat) (h : WInv W0 b l w) (hl : l.length ≤ 120000000000000) (h0 : 0 ≤ sign) (h1 : sign ≤ 255) (hm : m ≤ 7) :
    Calls Tryz.prog 94 #[.pointer (some ⟨b, 0, none⟩), .int .u8 sign, .int .i64 (m : Int)] w fun e w' => e = .returned (.tuple #[]) ∧ WInv W0 b (l ++ marksOut sign m) w' ∧ Lib.OthersKept 5 (some b) w w' := by
  have HW := hide h
  clear h
  by_cases hz : m = 0
  · subst hz
    go_enter Tryz.func94, Tryz.ntmps94
    go_wp2_with fail
    refine bodyPost_ret (results_none rfl _ _ _) rfl ?_
    exact ⟨rfl, by simpa [marksOut] using unhide HW, Lib.OthersKept.refl _ _ _⟩
  · have hzb : ((m : Int) == 0) = false := by rw [beq_eq_false_iff_ne]; omega
    have HZ := hide hz
    clear hz
    go_enter Tryz.func94, Tryz.ntmps94
    go_wp2_with (go_at_call 65; refine (wb_any _ (by exact unhide HW) (by omega) h0 h1).mono ?_; rintro e w1 ⟨rfl, hw1, ho1⟩; have HW1 := hide hw1; have HO1 := hide ho1; clear hw1 ho1)
    go_loopg [12] 4 (fun g i wr => ∃ j : Nat, j ≤ 3 ∧ g = 4 - j ∧ i = .int .i64 (j : Int) ∧ WInv W0 b (l ++ [u8 sign] ++ markOut m j) wr ∧ Lib.OthersKept 5 (some b) w wr)
    case atStart => exact ⟨0, by omega, rfl, rfl, by simpa [markOut] using unhide HW1, unhide HO1⟩
    case round =>
      obtain ⟨j, hj, hg, rfl, hwi, hok⟩ := hrel
      have A : Aside (gk = 4 - j ∧ WInv W0 b (l ++ [u8 sign] ++ markOut m j) wr ∧ Lib.OthersKept 5 (some b) w wr) := ⟨hg, hwi, hok⟩
      clear hg hwi hok HW1 HO1 HW
      rcases (by omega : j = 0 ∨ j = 1 ∨ j = 2 ∨ j = 3) with e | e | e | e
      all_goals subst e
      all_goals try clear hj
      case inl =>
        have hbit := bit1 hm
        have hlm := markOut_len m 0
        by_cases hc : m % 2 = 1
        · rw [decide_eq_true hc] at hbit
          have HC := hide hc
          clear hc
          go_wp2_with fail
          refine (wb_any 97 A.out.2.1 (by simp; omega) (by simp) (by simp)).mono ?_
          rintro e w2 ⟨rfl, hw2, ho2⟩
          have HW2 := hide hw2
          have HO2 := hide (A.out.2.2.trans ho2)
          clear hw2 ho2
          go_wp2
          go_roundg (4 - 1)
          case measure => have := A.out.1; omega
          case rel =>
            refine ⟨1, by omega, rfl, rfl, ?_, unhide HO2⟩
            have h9 := unhide HW2
            have e9 : markOut m 1 = markOut m 0 ++ [u8 97] := by simp only [markOut]; rw [if_pos (unhide HC)]; rfl
            rw [e9]; simpa using h9
        · rw [decide_eq_false hc] at hbit
          have HC := hide hc
          clear hc
          go_wp2_with fail
          go_roundg (4 - 1)
          case measure => have := A.out.1; omega
          case rel =>
            refine ⟨1, by omega, rfl, rfl, ?_, A.out.2.2⟩
            have e9 : markOut m 1 = markOut m 0 := by simp only [markOut]; rw [if_neg (unhide HC)]; try simp
            rw [e9]; exact A.out.2.1
      case inr.inl =>
        have hbit := bit2 hm
        have hlm := markOut_len m 1
        by_cases hc : m / 2 % 2 = 1
        · rw [decide_eq_true hc] at hbit
          have HC := hide hc
          clear hc
          go_wp2_with fail
          refine (wb_any 98 A.out.2.1 (by simp; omega) (by simp) (by simp)).mono ?_
          rintro e w2 ⟨rfl, hw2, ho2⟩
          have HW2 := hide hw2
          have HO2 := hide (A.out.2.2.trans ho2)
          clear hw2 ho2
          go_wp2
          go_roundg (4 - 2)
          case measure => have := A.out.1; omega
          case rel =>
            refine ⟨2, by omega, rfl, rfl, ?_, unhide HO2⟩
            have h9 := unhide HW2
            have e9 : markOut m 2 = markOut m 1 ++ [u8 98] := by simp only [markOut]; rw [if_pos (unhide HC)]; rfl
            rw [e9]; simpa using h9
        · rw [decide_eq_false hc] at hbit
          have HC := hide hc
          clear hc
          go_wp2_with fail
          go_roundg (4 - 2)
          case measure => have := A.out.1; omega
          case rel =>
            refine ⟨2, by omega, rfl, rfl, ?_, A.out.2.2⟩
            have e9 : markOut m 2 = markOut m 1 := by simp only [markOut]; rw [if_neg (unhide HC)]; try simp
            rw [e9]; exact A.out.2.1
      case inr.inr.inl =>
        have hbit := bit4 hm
        have hlm := markOut_len m 2
        by_cases hc : m / 4 % 2 = 1
        · rw [decide_eq_true hc] at hbit
          have HC := hide hc
          clear hc
          go_wp2_with fail
          refine (wb_any 99 A.out.2.1 (by simp; omega) (by simp) (by simp)).mono ?_
          rintro e w2 ⟨rfl, hw2, ho2⟩
          have HW2 := hide hw2
          have HO2 := hide (A.out.2.2.trans ho2)
          clear hw2 ho2
          go_wp2
          go_roundg (4 - 3)
          case measure => have := A.out.1; omega
          case rel =>
            refine ⟨3, by omega, rfl, rfl, ?_, unhide HO2⟩
            have h9 := unhide HW2
            have e9 : markOut m 3 = markOut m 2 ++ [u8 99] := by simp only [markOut]; rw [if_pos (unhide HC)]; rfl
            rw [e9]; simpa using h9
        · rw [decide_eq_false hc] at hbit
          have HC := hide hc
          clear hc
          go_wp2_with fail
          go_roundg (4 - 3)
          case measure => have := A.out.1; omega
          case rel =>
            refine ⟨3, by omega, rfl, rfl, ?_, A.out.2.2⟩
            have e9 : markOut m 3 = markOut m 2 := by simp only [markOut]; rw [if_neg (unhide HC)]; try simp
            rw [e9]; exact A.out.2.1
      case inr.inr.inr =>
        go_wp2_with fail
        go_end0
        refine ⟨rfl, ?_, A.out.2.2⟩
        unfold marksOut
        rw [if_neg (unhide HZ)]
        have := A.out.2.1
        simpa using this

end Go.Proofs.YthnggjaecngbiaaGreatDoor

namespace Go.Proofs.YthnggjaecngbiaaGreatDoor
open Go.RowKit

theorem dd_len : ∀ (k u : Nat), u < 10 ^ (k + 1) → (Lib.decDigits u).length ≤ k + 1
  | 0, u, h => by
    rw [Lib.decDigits, dif_pos (by simpa using h)]; simp
  | k + 1, u, h => by
    rw [Lib.decDigits]
    split
    · simp
    · have := dd_len k (u / 10) (by rw [Nat.pow_succ] at h; omega)
      simp; omega
theorem itoa_len {n : Int} (h : -9999999 ≤ n) (h' : n ≤ 9999999) : (Lib.itoa n).length ≤ 8 := by
  unfold Lib.itoa
  split
  · have := dd_len 6 n.natAbs (by have : (10 : Nat) ^ (6 + 1) = 10000000 := by decide
                                  omega)
    simp; omega
  · have := dd_len 6 n.toNat (by have : (10 : Nat) ^ (6 + 1) = 10000000 := by decide
                                 omega)
    omega

def Tab (w : World) : Prop := Lib.TabIs Tryz.prog w "internal/strconv.uint64pow10" .u64 Lib.pow10Tab

theorem tab_below {W w : World} (h : Below W.heap.size W w) (ht : Tab W) : Tab w := by
  unfold Tab Lib.TabIs at ht ⊢
  cases hg : Tryz.prog.globalNamed "internal/strconv.uint64pow10" with
  | none => unfold World.var? at ht; simp [hg] at ht
  | some g =>
    refine var?_below h hg ?_ ht
    rcases Nat.lt_or_ge g W.heap.size with h1 | h1
    · exact h1
    · unfold World.var? at ht
      simp [hg, Array.getElem?_eq_none h1] at ht

theorem below_grow (w : World) (k : Nat) (os : Array Obj) : Below w.heap.size w (Sort.grow (w.drewN k) os) :=
  ⟨rfl, rfl, rfl, by simp [Sort.grow], fun j hj => by simp [Sort.grow, Array.getElem?_append, hj]⟩

theorem itoa_any (n : Int) (w : World) (h : -9999999 ≤ n) (h' : n ≤ 9999999) (ht : Tab w) :
    Calls Tryz.prog 129 #[.int .i64 n] w fun e w' => e = .returned (.string ⟨(Lib.itoa n).toArray⟩) ∧ Below w.heap.size w w' := by
  refine (Tryz.strconv_Itoa n (by omega) (by omega) w ht).mono ?_
  rintro e w' ⟨he, k, os, rfl⟩
  exact ⟨he, below_grow w k os⟩

theorem ret_str {x : ByteArray} {l : List UInt8} (h : x.data.toList = l) : Ending.returned (.string x) = .returned (.string ⟨l.toArray⟩) := by
  rw [← h]

/-- A test without the signs ahead of it. -/
def bareOut (t : PTest) : List UInt8 :=
  if t.kind = 1 then [110, 111, 110, 101]
  else if t.kind = 2 then [99, 108, 97, 115, 104]
  else if t.kind = 3 then Lib.itoa t.low
  else if t.kind = 4 then Lib.itoa t.low ++ [46, 46] ++ Lib.itoa t.high
  else if t.kind = 5 then [60] ++ Lib.itoa t.low
  else if t.kind = 6 then [62] ++ Lib.itoa t.low
  else [95]
theorem bareOut_len {t : PTest} (h : WfT t) : (bareOut t).length ≤ 18 := by
  have h1 := itoa_len h.low.1 h.low.2
  have h2 := itoa_len h.high.1 h.high.2
  unfold bareOut
  repeat' split
  all_goals simp
  all_goals omega

set_option maxRecDepth 100000 in
set_option maxHeartbeats 3200000 in
theorem bareTestOut_any (t : PTest) (W0 w : World) (hw : WfT t) (hb : Below W0.heap.size W0 w) (ht : Tab W0) :
    Calls Tryz.prog 128 #[tv t] w fun e w' => e = .returned (.string ⟨(bareOut t).toArray⟩) ∧ Below w.heap.size w w' := by
  have hlo := hw.low
  have hhi := hw.high
  have hk := hw.kind
  have l1 := itoa_len hlo.1 hlo.2
  have l2 := itoa_len hhi.1 hhi.2
  obtain ⟨t0, t1, t2, t3⟩ := t
  simp only at hlo hhi hk l1 l2
  have hb1 : Below W0.heap.size W0 (w.alloc (.cells #[.int .i64 (t0 : Int), .int .i64 t1, .int .i64 t2, .int .i64 t3] 193)) := hb.alloc hb.size _
  have HT := hide (tab_below hb1 ht)
  simp only [tv]
  go_enter Tryz.func128, Tryz.ntmps128
  go_wp2_with fail
  refine (itoa_any _ _ hlo.1 hlo.2 (unhide HT)).mono ?_
  rintro e w1 ⟨rfl, hb2⟩
  have HT1 := hide (tab_below hb2 (unhide HT))
  have HB := hide (below_after ((Below.refl _ w).alloc (Nat.le_refl _) _) hb2)
  obtain ⟨c0, c1, c2, c3, f0, f1, f2, f3⟩ := cells4 ((hb2.block w.heap.size (by simp)).trans (alloc_last w _))
  obtain ⟨d1, hd1⟩ : ∃ d : ByteArray, (⟨(Lib.itoa t2).toArray⟩ : ByteArray) = d := ⟨_, rfl⟩
  have hs1 : d1.size ≤ 8 := by rw [← hd1]; show (Lib.itoa t2).toArray.size ≤ 8; simpa using l1
  rw [hd1]
  have HD1 : Hid (d1.data.toList = Lib.itoa t2) := hide (by rw [← hd1])
  clear hb2 hd1 hb1 hb ht HT hw
  rcases (by omega : t1 = 0 ∨ t1 = 1 ∨ t1 = 2 ∨ t1 = 3 ∨ t1 = 4 ∨ t1 = 5 ∨ t1 = 6) with e | e | e | e | e | e | e
  all_goals subst e
  case inr.inr.inr.inr.inl =>
    go_wp2_with fail
    refine (itoa_any _ _ hhi.1 hhi.2 (unhide HT1)).mono ?_
    rintro e w2 ⟨rfl, hb3⟩
    have HB3 := hide (below_after (unhide HB) hb3)
    obtain ⟨d2, hd2⟩ : ∃ d : ByteArray, (⟨(Lib.itoa t3).toArray⟩ : ByteArray) = d := ⟨_, rfl⟩
    have hs2 : d2.size ≤ 8 := by rw [← hd2]; show (Lib.itoa t3).toArray.size ≤ 8; simpa using l2
    rw [hd2]
    have HD2 : Hid (d2.data.toList = Lib.itoa t3) := hide (by rw [← hd2])
    clear hb3 hd2
    go_wp2_with fail
    go_ret
    refine ⟨ret_str ?_, unhide HB3⟩
    simp only [bareOut]
    simp [unhide HD1, unhide HD2]
  all_goals
    go_wp2_with fail
    go_ret
    refine ⟨ret_str ?_, unhide HB⟩
    simp only [bareOut]
    simp [unhide HD1]

/-- A test as it stands. -/
def testOut (t : PTest) : List UInt8 := Lib.repeatL [33] t.nots ++ bareOut t
theorem testOut_len {t : PTest} (h : WfT t) : (testOut t).length ≤ 1018 := by
  have h1 := bareOut_len h
  have h2 := h.nots
  unfold testOut
  rw [List.length_append, Lib.repeatL_length]
  simp; omega
/-- Tests with the sign between each. -/
def tOuts : Bool → List PTest → List UInt8
  | _, [] => []
  | true, t :: ts => [44] ++ testOut t ++ tOuts true ts
  | false, t :: ts => testOut t ++ tOuts true ts
theorem tOuts_snoc (b : Bool) : ∀ (ts : List PTest) (t : PTest), tOuts b (ts ++ [t]) = tOuts b ts ++ (if b = false ∧ ts = [] then [] else [44]) ++ testOut t := by
  intro ts
  induction ts generalizing b with
  | nil => intro t; cases b <;> simp [tOuts]
  | cons x ts ih => intro t; cases b <;> simp [tOuts, ih]
theorem tOuts_len (b : Bool) (ts : List PTest) (h : ∀ t ∈ ts, WfT t) : (tOuts b ts).length ≤ ts.length * 1019 := by
  induction ts generalizing b with
  | nil => simp [tOuts]
  | cons x ts ih =>
    have h1 := testOut_len (h x (by simp))
    have h2 := ih true (fun t ht => h t (by simp [ht]))
    cases b <;> simp [tOuts] <;> omega
def ruleOut (r : PRule) : List UInt8 := tOuts false r.tests ++ [61] ++ Lib.itoa r.num ++ [59]
theorem ruleOut_len {r : PRule} (h : WfR r) : (ruleOut r).length ≤ 1100000 := by
  have h1 := tOuts_len false r.tests h.tests
  have h2 := itoa_len h.num.1 h.num.2
  have h3 := h.len
  unfold ruleOut
  simp
  omega

end Go.Proofs.YthnggjaecngbiaaGreatDoor

