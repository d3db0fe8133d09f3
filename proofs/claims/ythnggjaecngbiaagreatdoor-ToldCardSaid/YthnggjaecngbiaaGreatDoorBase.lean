import Derived.WalkKit
import Derived.WalkSpells
import Derived.BigQuiet
import Derived.Deep.QuietTactic
import Derived.Deep.LoopGhost
import Derived.Deep.Light
import Derived.WalkSmall
import Derived.Deep.RegionWith
import Derived.Test.YthnggjaecngbiaaGreatDoorRows
namespace Go.Proofs.YthnggjaecngbiaaGreatDoor
open Go.RowKit

theorem hide {p : Prop} (h : p) : Hid p := h
theorem unhide {p : Prop} (h : Hid p) : p := h

/-- The byte at place k, or -1 behind the end. -/
def byteAt (s : ByteArray) (k : Nat) : Int := if h : k < s.size then (s[k].toNat : Int) else -1

theorem byteAt_in {s : ByteArray} {k : Nat} (h : k < s.size) : byteAt s k = (s[k].toNat : Int) := by simp [byteAt, h]
theorem byteAt_out {s : ByteArray} {k : Nat} (h : s.size ≤ k) : byteAt s k = -1 := by
  have : ¬ k < s.size := by omega
  simp [byteAt, this]
theorem byteAt_lo (s : ByteArray) (k : Nat) : -1 ≤ byteAt s k := by
  unfold byteAt; split <;> omega
theorem byteAt_hi (s : ByteArray) (k : Nat) : byteAt s k ≤ 255 := by
  unfold byteAt
  split
  · have := (s[k]).toNat_lt; omega
  · omega

/-- Is the byte at k within lo and hi? -/
def inR (s : ByteArray) (k : Nat) (lo hi : Int) : Bool := decide (lo ≤ byteAt s k ∧ byteAt s k ≤ hi)

/-- The reader's block. -/
def Rd (T : TypeId) (b : Nat) (s : ByteArray) (k : Nat) (w : World) : Prop := w.heap[b]? = some (.cells #[.string s, .int .i64 (k : Int)] T)

theorem Rd.lt {T : TypeId} {b : Nat} {s : ByteArray} {k : Nat} {w : World} (h : Rd T b s k w) : b < w.heap.size := by
  unfold Rd at h
  exact (Array.getElem?_eq_some_iff.1 h).1
theorem Rd.text {T : TypeId} {b : Nat} {s : ByteArray} {k : Nat} {w : World} (h : Rd T b s k w) : w.cell? ⟨b, 0, none⟩ = some (.string s) := by
  unfold Rd at h
  simp [World.cell?, h]
theorem Rd.at {T : TypeId} {b : Nat} {s : ByteArray} {k : Nat} {w : World} (h : Rd T b s k w) : w.cell? ⟨b, 1, none⟩ = some (.int .i64 (k : Int)) := by
  unfold Rd at h
  simp [World.cell?, h]
theorem Rd.free {T : TypeId} {b : Nat} {s : ByteArray} {k : Nat} {w : World} (h : Rd T b s k w) : w.frozen? ⟨b, 1, none⟩ = false := by
  unfold Rd at h
  simp [World.frozen?, h]
theorem Rd.drewN {T : TypeId} {b : Nat} {s : ByteArray} {k : Nat} {w : World} (h : Rd T b s k w) (n : Nat) : Rd T b s k (w.drewN n) := h
theorem Rd.set {T : TypeId} {b : Nat} {s : ByteArray} {k : Nat} {w : World} (h : Rd T b s k w) (m : Nat) : Rd T b s m (w.setCell ⟨b, 1, none⟩ (.int .i64 (m : Int))) := by
  unfold Rd at h ⊢
  have hl := (Array.getElem?_eq_some_iff.1 h).1
  have he := (Array.getElem?_eq_some_iff.1 h).2
  simp [World.setCell, Array.getElem?_modify, h]


theorem inR_out {s : ByteArray} {k : Nat} {lo hi : Int} (h : s.size ≤ k) (hl : 0 ≤ lo) : inR s k lo hi = false := by
  unfold inR; rw [byteAt_out h]; simp; omega
theorem inR_lo {s : ByteArray} {k : Nat} {lo hi : Int} (h : k < s.size) (hl : ¬ lo ≤ (s[k].toNat : Int)) : inR s k lo hi = false := by
  unfold inR; rw [byteAt_in h]; simp; omega
theorem inR_hi {s : ByteArray} {k : Nat} {lo hi : Int} (h : k < s.size) (hl : lo ≤ (s[k].toNat : Int)) : inR s k lo hi = decide ((s[k].toNat : Int) ≤ hi) := by
  unfold inR; rw [byteAt_in h]; simp; omega
theorem inR_lt {s : ByteArray} {k : Nat} {lo hi : Int} (hl : 0 ≤ lo) (h : inR s k lo hi = true) : k < s.size := by
  by_cases hk : k < s.size
  · exact hk
  · rw [inR_out (by omega) hl] at h; cases h

theorem ret_bool {x y : Bool} (h : x = y) : Ending.returned (.bool x) = .returned (.bool y) := by rw [h]

/-- The reader has gone on to k; all other blocks are as they were. -/
structure Moved (T : TypeId) (b : Nat) (s : ByteArray) (k : Nat) (w w' : World) : Prop where
  os : w'.os = w.os
  tape : w'.tape = w.tape
  output : w'.output = w.output
  size : w.heap.size ≤ w'.heap.size
  block : ∀ j, j < w.heap.size → j ≠ b → w'.heap[j]? = w.heap[j]?
  rd : Rd T b s k w'

theorem Moved.refl {T : TypeId} {b : Nat} {s : ByteArray} {k : Nat} {w : World} (h : Rd T b s k w) : Moved T b s k w w := ⟨rfl, rfl, rfl, Nat.le_refl _, fun _ _ _ => rfl, h⟩
theorem Moved.drewN {T : TypeId} {b : Nat} {s : ByteArray} {k : Nat} {w w' : World} (h : Moved T b s k w w') (n : Nat) : Moved T b s k w (w'.drewN n) := ⟨h.os, h.tape, h.output, h.size, h.block, h.rd⟩
theorem Moved.trans {T : TypeId} {b : Nat} {s : ByteArray} {k m : Nat} {w w' w'' : World} (h : Moved T b s k w w') (g : Moved T b s m w' w'') : Moved T b s m w w'' :=
  ⟨g.os.trans h.os, g.tape.trans h.tape, g.output.trans h.output, Nat.le_trans h.size g.size, fun j hj hb => (g.block j (Nat.lt_of_lt_of_le hj h.size) hb).trans (h.block j hj hb), g.rd⟩
theorem Moved.set {T : TypeId} {b : Nat} {s : ByteArray} {k : Nat} {w w' : World} (h : Moved T b s k w w') (m : Nat) : Moved T b s m w (w'.setCell ⟨b, 1, none⟩ (.int .i64 (m : Int))) :=
  ⟨h.os, h.tape, h.output, by simp only [World.setCell, Array.size_modify]; exact h.size, fun j hj hb => by rw [Below.heap_setCell _ _ _ _ hb]; exact h.block j hj hb, h.rd.set m⟩

theorem Moved.below {T : TypeId} {b : Nat} {s : ByteArray} {k : Nat} {w w' w'' : World} (h : Moved T b s k w w') (g : Below w'.heap.size w' w'') : Moved T b s k w w'' :=
  ⟨g.os.trans h.os, g.tape.trans h.tape, g.output.trans h.output, Nat.le_trans h.size g.size, fun j hj hb => (g.block j (Nat.lt_of_lt_of_le hj h.size)).trans (h.block j hj hb), by
    have h1 := h.rd
    have h2 := g.block b h1.lt
    unfold Rd at h1 ⊢
    rw [h2]; exact h1⟩
theorem Moved.of_drew {T : TypeId} {b : Nat} {s : ByteArray} {k : Nat} {w w' : World} (h : Moved T b s k w.drew w') : Moved T b s k w w' := ⟨h.os, h.tape, h.output, h.size, h.block, h.rd⟩

/-- From k on as long as p holds; at most f steps. -/
def skipTo (p : Int → Bool) (s : ByteArray) : Nat → Nat → Nat
  | 0, k => k
  | f + 1, k => if p (byteAt s k) then skipTo p s f (k + 1) else k

def isBlank (c : Int) : Bool := decide (c = 32 ∨ c = 10)
def isLow (c : Int) : Bool := decide (97 ≤ c ∧ c ≤ 122)
def isDig (c : Int) : Bool := decide (48 ≤ c ∧ c ≤ 57)

/-- Where the next thing begins. -/
def nextP (s : ByteArray) (k : Nat) : Nat := skipTo isBlank s (s.size - k) k

theorem skipTo_le (p : Int → Bool) (s : ByteArray) (f k : Nat) : skipTo p s f k ≤ k + f := by
  induction f generalizing k with
  | zero => simp [skipTo]
  | succ f ih => unfold skipTo; split
                 · have := ih (k + 1); omega
                 · omega
theorem skipTo_ge (p : Int → Bool) (s : ByteArray) (f k : Nat) : k ≤ skipTo p s f k := by
  induction f generalizing k with
  | zero => simp [skipTo]
  | succ f ih => unfold skipTo; split
                 · have := ih (k + 1); omega
                 · omega
theorem nextP_step {s : ByteArray} {k : Nat} (h : k < s.size) (hb : isBlank (byteAt s k) = true) : nextP s k = nextP s (k + 1) := by
  unfold nextP
  obtain ⟨f, hf⟩ : ∃ f, s.size - k = f + 1 := ⟨s.size - k - 1, by omega⟩
  rw [hf, show s.size - (k + 1) = f by omega, skipTo, if_pos hb]
theorem nextP_stop {s : ByteArray} {k : Nat} (hb : isBlank (byteAt s k) = false) : nextP s k = k := by
  unfold nextP
  cases s.size - k with
  | zero => rfl
  | succ f => rw [skipTo, hb]; rfl
theorem nextP_le {s : ByteArray} {k : Nat} (h : k ≤ s.size) : nextP s k ≤ s.size := by
  have := skipTo_le isBlank s (s.size - k) k; unfold nextP; omega
theorem nextP_ge (s : ByteArray) (k : Nat) : k ≤ nextP s k := skipTo_ge _ _ _ _
theorem skipTo_end {p : Int → Bool} {s : ByteArray} (hp : p (-1) = false) {f k : Nat} (h : s.size ≤ k + f) : p (byteAt s (skipTo p s f k)) = false := by
  induction f generalizing k with
  | zero => rw [skipTo, byteAt_out (by omega)]; exact hp
  | succ f ih =>
    rw [skipTo]
    split
    · exact ih (by omega)
    · simp_all
theorem nextP_idem {s : ByteArray} {k : Nat} (h : k ≤ s.size) : nextP s (nextP s k) = nextP s k :=
  nextP_stop (skipTo_end rfl (by omega))
theorem isBlank_out {s : ByteArray} {k : Nat} (h : s.size ≤ k) : isBlank (byteAt s k) = false := by rw [byteAt_out h]; rfl
theorem inR_one (s : ByteArray) (k : Nat) (c : Int) : inR s k c c = decide (byteAt s k = c) := by
  unfold inR; rw [Bool.eq_iff_iff]; simp; omega

/-- Where the letters that begin at k end. -/
def lowEnd (s : ByteArray) (k : Nat) : Nat := skipTo isLow s (s.size - k) k

theorem skipTo_step {p : Int → Bool} {s : ByteArray} {k : Nat} (h : k < s.size) (hb : p (byteAt s k) = true) : skipTo p s (s.size - k) k = skipTo p s (s.size - (k + 1)) (k + 1) := by
  obtain ⟨f, hf⟩ : ∃ f, s.size - k = f + 1 := ⟨s.size - k - 1, by omega⟩
  rw [hf, show s.size - (k + 1) = f by omega, skipTo, if_pos hb]
theorem skipTo_stop {p : Int → Bool} {s : ByteArray} {f k : Nat} (hb : p (byteAt s k) = false) : skipTo p s f k = k := by
  cases f with
  | zero => rfl
  | succ f => rw [skipTo, hb]; rfl
theorem lowEnd_le {s : ByteArray} {k : Nat} (h : k ≤ s.size) : lowEnd s k ≤ s.size := by
  have := skipTo_le isLow s (s.size - k) k; unfold lowEnd; omega
theorem lowEnd_ge (s : ByteArray) (k : Nat) : k ≤ lowEnd s k := skipTo_ge _ _ _ _
theorem inR_low (s : ByteArray) (k : Nat) : inR s k 97 122 = isLow (byteAt s k) := rfl
theorem inR_dig (s : ByteArray) (k : Nat) : inR s k 48 57 = isDig (byteAt s k) := rfl

/-- Words that are no names, and the length. -/
def isNameB (x : ByteArray) : Bool := !x.toList.isEmpty && !(x.toList == [105, 110]) && !(x.toList == [116, 97, 98, 108, 101]) && !(x.toList == [110, 111, 110, 101]) && !(x.toList == [99, 108, 97, 115, 104]) && decide ((x.size : Int) ≤ 8)

/-- Given up at a place, or a value and where it ends. -/
abbrev Res (α : Type) : Type := Sum Nat (α × Nat)

def nameR (s : ByteArray) (k : Nat) : Res ByteArray :=
  if isNameB (s.extract (nextP s k) (lowEnd s (nextP s k))) then .inr (s.extract (nextP s k) (lowEnd s (nextP s k)), lowEnd s (nextP s k)) else .inl (nextP s k)

def adv (t : Bool) (k : Nat) : Nat := if t then k + 1 else k
def bit (t : Bool) (n : Nat) : Nat := if t then n else 0

/-- The letters of marks at k: the set, and where they end. -/
def mk1 (s : ByteArray) (k : Nat) : Nat := adv (inR s k 97 97) k
def mk2 (s : ByteArray) (k : Nat) : Nat := adv (inR s (mk1 s k) 98 98) (mk1 s k)
def mk3 (s : ByteArray) (k : Nat) : Nat := adv (inR s (mk2 s k) 99 99) (mk2 s k)
def mkSet (s : ByteArray) (k : Nat) : Nat := bit (inR s k 97 97) 1 + bit (inR s (mk1 s k) 98 98) 2 + bit (inR s (mk2 s k) 99 99) 4
def marksR (s : ByteArray) (k : Nat) : Res Nat := if mkSet s k = 0 then .inl (mk3 s k) else .inr (mkSet s k, mk3 s k)

/-- The digits at k. -/
def digEnd (s : ByteArray) (k : Nat) : Nat := skipTo isDig s (s.size - k) k
def digV (s : ByteArray) (k : Nat) : Nat → Int
  | 0 => 0
  | j + 1 => 10 * digV s k j + (byteAt s (k + j) - 48)
def digitsR (s : ByteArray) (k : Nat) : Res Int :=
  if 7 < digEnd s k - k then .inl (k + 7) else if digEnd s k = k then .inl k else .inr (digV s k (digEnd s k - k), digEnd s k)

def neg (t : Bool) (v : Int) : Int := if t then -v else v
def numAt (s : ByteArray) (k : Nat) : Nat := adv (inR s (nextP s k) 45 45) (nextP s k)
def numberR (s : ByteArray) (k : Nat) : Res Int :=
  match digitsR s (numAt s k) with
  | .inl p => .inl p
  | .inr (v, q) => .inr (neg (inR s (nextP s k) 45 45) v, q)

/-- The policy's letter behind blanks. -/
def isPol (c : Int) : Bool := decide (c = 85 ∨ c = 70 ∨ c = 83 ∨ c = 78 ∨ c = 80)
def policyR (s : ByteArray) (k : Nat) : Res Int :=
  if isPol (byteAt s (nextP s k)) then .inr (byteAt s (nextP s k), nextP s k + 1) else .inl (nextP s k)

theorem adv_le {s : ByteArray} {k : Nat} {lo hi : Int} (h : k ≤ s.size) (hl : 0 ≤ lo) : adv (inR s k lo hi) k ≤ s.size := by
  unfold adv; split
  · rename_i ht; have := inR_lt hl ht; omega
  · exact h
theorem mk1_le {s : ByteArray} {k : Nat} (h : k ≤ s.size) : mk1 s k ≤ s.size := adv_le h (by omega)
theorem mk2_le {s : ByteArray} {k : Nat} (h : k ≤ s.size) : mk2 s k ≤ s.size := adv_le (mk1_le h) (by omega)
theorem mk3_le {s : ByteArray} {k : Nat} (h : k ≤ s.size) : mk3 s k ≤ s.size := adv_le (mk2_le h) (by omega)
theorem digEnd_le {s : ByteArray} {k : Nat} (h : k ≤ s.size) : digEnd s k ≤ s.size := by
  have := skipTo_le isDig s (s.size - k) k; unfold digEnd; omega
theorem digEnd_ge (s : ByteArray) (k : Nat) : k ≤ digEnd s k := skipTo_ge _ _ _ _

theorem isDig_bd {c : Int} (h : isDig c = true) : 48 ≤ c ∧ c ≤ 57 := by unfold isDig at h; simpa using h
theorem digV_bd (s : ByteArray) (k : Nat) : ∀ n, (∀ j, j < n → isDig (byteAt s (k + j)) = true) → 0 ≤ digV s k n ∧ digV s k n < 10 ^ n
  | 0, _ => by simp [digV]
  | n + 1, h => by
    have ih := digV_bd s k n (fun j hj => h j (by omega))
    have hd := isDig_bd (h n (by omega))
    simp only [digV]
    rw [Int.pow_succ]
    omega
theorem digV_seven {s : ByteArray} {k n : Nat} (hn : n ≤ 7) (h : ∀ j, j < n → isDig (byteAt s (k + j)) = true) : 0 ≤ digV s k n ∧ digV s k n ≤ 9999999 := by
  have := digV_bd s k n h
  have h2 : (10 : Int) ^ n ≤ 10 ^ 7 := by
    rcases (by omega : n = 0 ∨ n = 1 ∨ n = 2 ∨ n = 3 ∨ n = 4 ∨ n = 5 ∨ n = 6 ∨ n = 7) with h | h | h | h | h | h | h | h <;> subst h <;> decide
  have h3 : (10 : Int) ^ 7 = 10000000 := by decide
  omega

theorem extract_le (s : ByteArray) (i j : Nat) (h : j ≤ s.size) : (s.extract i j).size ≤ j - i := by
  rw [ByteArray.size_extract]; omega

end Go.Proofs.YthnggjaecngbiaaGreatDoor

namespace Go.Proofs.YthnggjaecngbiaaGreatDoor
open Go.RowKit

set_option maxHeartbeats 400000 in
theorem within_any (b : Nat) (s : ByteArray) (k : Nat) (lo hi : Int) (w : World) (hr : Rd 152 b s k w) (hl : 0 ≤ lo) :
    Calls Tryz.prog 147 #[.pointer (some ⟨b, 0, none⟩), .int .u8 lo, .int .u8 hi] w fun e w' => e = .returned (.bool (inR s k lo hi)) ∧ ∃ n, w' = w.drewN n := by
  have h0 := hr.text
  have h1 := hr.at
  clear hr
  by_cases hk : k < s.size
  · have hd : decide ((k : Int) < s.size) = true := by simp; omega
    by_cases h2 : lo ≤ (s[k].toNat : Int)
    · have hd2 : decide (lo ≤ (s[k].toNat : Int)) = true := by simpa using h2
      go_enter Tryz.func147, Tryz.ntmps147
      go_wp2
      go_quiet (fail)
      go_wp2
      go_ret
      exact ⟨ret_bool (inR_hi hk h2).symm, _, rfl⟩
    · have hd2 : decide (lo ≤ (s[k].toNat : Int)) = false := by simpa using h2
      go_enter Tryz.func147, Tryz.ntmps147
      go_wp2
      go_quiet (fail)
      go_wp2
      go_ret
      exact ⟨ret_bool (inR_lo hk (by omega)).symm, _, rfl⟩
  · have hd : decide ((k : Int) < s.size) = false := by simp; omega
    go_enter Tryz.func147, Tryz.ntmps147
    go_wp2
    go_quiet (fail)
    go_wp2
    go_ret
    exact ⟨ret_bool (inR_out (by omega) hl).symm, _, rfl⟩

set_option maxHeartbeats 400000 in
theorem isHere_any (b : Nat) (s : ByteArray) (k : Nat) (c : Int) (w : World) (hr : Rd 152 b s k w) (hl : 0 ≤ c) :
    Calls Tryz.prog 146 #[.pointer (some ⟨b, 0, none⟩), .int .u8 c] w fun e w' => e = .returned (.bool (inR s k c c)) ∧ ∃ n, w' = w.drewN n := by
  have H : Hid (Rd 152 b s k w) := hr
  clear hr
  go_enter Tryz.func146, Tryz.ntmps146
  go_wp2_with (go_at_call 147; refine (within_any _ _ k _ _ _ H.out hl).mono ?_; rintro e w' ⟨rfl, n, rfl⟩)
  go_ret
  exact ⟨rfl, _, rfl⟩

theorem blank_tt {s : ByteArray} {k : Nat} (h : inR s k 32 32 = true) : isBlank (byteAt s k) = true := by
  rw [inR_one] at h; simp at h; unfold isBlank; simp [h]
theorem blank_ft {s : ByteArray} {k : Nat} (h : inR s k 10 10 = true) : isBlank (byteAt s k) = true := by
  rw [inR_one] at h; simp at h; unfold isBlank; simp [h]
theorem blank_ff {s : ByteArray} {k : Nat} (h : inR s k 32 32 = false) (h' : inR s k 10 10 = false) : isBlank (byteAt s k) = false := by
  rw [inR_one] at h h'; simp at h h'; unfold isBlank; simp [h, h']

set_option maxHeartbeats 400000 in
theorem next_any (b : Nat) (s : ByteArray) (k : Nat) (w : World) (hr : Rd 152 b s k w) (hs : s.size ≤ 1000) (hk : k ≤ s.size) :
    Calls Tryz.prog 120 #[.pointer (some ⟨b, 0, none⟩)] w fun e w' => e = .returned (.int .i64 (nextP s k)) ∧ Moved 152 b s (nextP s k) w w' := by
  go_enter Tryz.func120, Tryz.ntmps120
  go_wp2_with fail
  go_loopg [] (s.size - k) (fun g wr => ∃ m, m ≤ s.size ∧ g = s.size - m ∧ nextP s m = nextP s k ∧ Moved 152 b s m w wr)
  case atStart => exact ⟨k, hk, rfl, rfl, Moved.refl hr⟩
  case round =>
    obtain ⟨m, hm, hg, hn, hmv⟩ := hrel
    clear hr
    have A : Aside (gk = s.size - m ∧ nextP s m = nextP s k ∧ Moved 152 b s m w wr) := ⟨hg, hn, hmv⟩
    clear hg hn
    have hrd := hmv.rd
    clear hmv
    have h1 := hrd.at
    have hf := hrd.free
    have H : Hid (Rd 152 b s m wr) := hrd
    clear hrd
    cases h32 : inR s m 32 32 with
    | true =>
      have hlt := inR_lt (by omega) h32
      have hb := blank_tt h32
      have HB : Hid (isBlank (byteAt s m) = true) := hb
      have H32 : Hid (inR s m 32 32 = true) := h32
      clear hb h32
      go_wp2_with (go_at_call 146; refine (isHere_any _ _ m _ _ (by exact H.out) (by omega)).mono ?_; rintro e w' ⟨rfl, n, rfl⟩; rw [H32.out])
      go_roundg (s.size - (m + 1))
      case measure => obtain ⟨hg, _⟩ := A.out; omega
      case rel =>
        obtain ⟨hg, hn, hmv⟩ := A.out
        refine ⟨m + 1, by omega, rfl, by rw [← hn, nextP_step hlt HB.out], ?_⟩
        rw [show ((m : Int) + 1) = ((m + 1 : Nat) : Int) from by omega]
        exact (hmv.drewN _).set (m + 1)
    | false =>
      cases h10 : inR s m 10 10 with
      | true =>
        have hlt := inR_lt (by omega) h10
        have HB : Hid (isBlank (byteAt s m) = true) := blank_ft h10
        have H32 : Hid (inR s m 32 32 = false) := h32
        have H10 : Hid (inR s m 10 10 = true) := h10
        clear h10 h32
        go_wp2_with (go_at_call 146; refine (isHere_any _ _ m _ _ (by exact H.out) (by omega)).mono ?_; rintro e w' ⟨rfl, n, rfl⟩; first | rw [H32.out] | rw [H10.out])
        go_roundg (s.size - (m + 1))
        case measure => obtain ⟨hg, _⟩ := A.out; omega
        case rel =>
          obtain ⟨hg, hn, hmv⟩ := A.out
          refine ⟨m + 1, by omega, rfl, by rw [← hn, nextP_step hlt HB.out], ?_⟩
          rw [show ((m : Int) + 1) = ((m + 1 : Nat) : Int) from by omega]
          exact (hmv.drewN _).set (m + 1)
      | false =>
        have HB : Hid (isBlank (byteAt s m) = false) := blank_ff h32 h10
        have H32 : Hid (inR s m 32 32 = false) := h32
        have H10 : Hid (inR s m 10 10 = false) := h10
        clear h10 h32
        go_wp2_with (go_at_call 146; refine (isHere_any _ _ m _ _ (by exact H.out) (by omega)).mono ?_; rintro e w' ⟨rfl, n, rfl⟩; first | rw [H32.out] | rw [H10.out])
        obtain ⟨hg, hn, hmv⟩ := A.out
        rw [nextP_stop HB.out] at hn
        go_ret
        rw [← hn]
        exact ⟨rfl, hmv.drewN _⟩

set_option maxHeartbeats 400000 in
theorem takeHere_yes (b : Nat) (s : ByteArray) (k : Nat) (c : Int) (w : World) (hr : Rd 152 b s k w) (hs : s.size ≤ 1000) (hl : 0 ≤ c) (h : inR s k c c = true) :
    Calls Tryz.prog 174 #[.pointer (some ⟨b, 0, none⟩), .int .u8 c] w fun e w' => e = .returned (.bool true) ∧ Moved 152 b s (k + 1) w w' := by
  have hlt := inR_lt hl h
  have h1 := hr.at
  have hf := hr.free
  have H : Hid (Rd 152 b s k w) := hr
  have HI : Hid (inR s k c c = true) := h
  clear hr h
  go_enter Tryz.func174, Tryz.ntmps174
  go_wp2_with (go_at_call 146; refine (isHere_any _ _ k _ _ (by exact H.out) hl).mono ?_; rintro e w' ⟨rfl, n, rfl⟩; rw [HI.out])
  go_ret
  refine ⟨rfl, ?_⟩
  rw [show ((k : Int) + 1) = ((k + 1 : Nat) : Int) from by omega]
  exact ((Moved.refl H.out).drewN _).set (k + 1)

set_option maxHeartbeats 400000 in
theorem takeHere_no (b : Nat) (s : ByteArray) (k : Nat) (c : Int) (w : World) (hr : Rd 152 b s k w) (hl : 0 ≤ c) (h : inR s k c c = false) :
    Calls Tryz.prog 174 #[.pointer (some ⟨b, 0, none⟩), .int .u8 c] w fun e w' => e = .returned (.bool false) ∧ Moved 152 b s k w w' := by
  have H : Hid (Rd 152 b s k w) := hr
  have HI : Hid (inR s k c c = false) := h
  clear hr h
  go_enter Tryz.func174, Tryz.ntmps174
  go_wp2_with (go_at_call 146; refine (isHere_any _ _ k _ _ (by exact H.out) hl).mono ?_; rintro e w' ⟨rfl, n, rfl⟩; rw [HI.out])
  go_ret
  exact ⟨rfl, (Moved.refl H.out).drewN _⟩

set_option maxHeartbeats 400000 in
theorem take_yes (b : Nat) (s : ByteArray) (k : Nat) (c : Int) (w : World) (hr : Rd 152 b s k w) (hs : s.size ≤ 1000) (hk : k ≤ s.size) (hl : 0 ≤ c) (h : inR s (nextP s k) c c = true) :
    Calls Tryz.prog 149 #[.pointer (some ⟨b, 0, none⟩), .int .u8 c] w fun e w' => e = .returned (.bool true) ∧ Moved 152 b s (nextP s k + 1) w w' := by
  have H : Hid (Rd 152 b s k w) := hr
  have HI : Hid (inR s (nextP s k) c c = true) := h
  clear hr h
  go_enter Tryz.func149, Tryz.ntmps149
  go_wp2_with (go_at_call 120; refine (next_any _ _ k _ (by exact H.out) hs hk).mono ?_; rintro e w' ⟨rfl, hm1⟩)
  refine (takeHere_yes _ _ _ _ _ hm1.rd hs hl HI.out).mono ?_
  rintro e w'' ⟨rfl, hm2⟩
  have HM : Hid (Moved 152 b s (nextP s k + 1) w w'') := hm1.trans hm2
  clear hm1 hm2
  go_wp2
  go_ret
  exact ⟨rfl, HM.out⟩

set_option maxHeartbeats 400000 in
theorem take_no (b : Nat) (s : ByteArray) (k : Nat) (c : Int) (w : World) (hr : Rd 152 b s k w) (hs : s.size ≤ 1000) (hk : k ≤ s.size) (hl : 0 ≤ c) (h : inR s (nextP s k) c c = false) :
    Calls Tryz.prog 149 #[.pointer (some ⟨b, 0, none⟩), .int .u8 c] w fun e w' => e = .returned (.bool false) ∧ Moved 152 b s (nextP s k) w w' := by
  have H : Hid (Rd 152 b s k w) := hr
  have HI : Hid (inR s (nextP s k) c c = false) := h
  clear hr h
  go_enter Tryz.func149, Tryz.ntmps149
  go_wp2_with (go_at_call 120; refine (next_any _ _ k _ (by exact H.out) hs hk).mono ?_; rintro e w' ⟨rfl, hm1⟩)
  refine (takeHere_no _ _ _ _ _ hm1.rd hl HI.out).mono ?_
  rintro e w'' ⟨rfl, hm2⟩
  have HM : Hid (Moved 152 b s (nextP s k) w w'') := hm1.trans hm2
  clear hm1 hm2
  go_wp2
  go_ret
  exact ⟨rfl, HM.out⟩

set_option maxHeartbeats 400000 in
theorem mustHere_yes (b : Nat) (s : ByteArray) (k : Nat) (c : Int) (w : World) (hr : Rd 152 b s k w) (hs : s.size ≤ 1000) (hl : 0 ≤ c) (h : inR s k c c = true) :
    Calls Tryz.prog 175 #[.pointer (some ⟨b, 0, none⟩), .int .u8 c] w fun e w' => e = .returned (.tuple #[]) ∧ Moved 152 b s (k + 1) w w' := by
  have H : Hid (Rd 152 b s k w) := hr
  have HI : Hid (inR s k c c = true) := h
  clear hr h
  go_enter Tryz.func175, Tryz.ntmps175
  go_wp2_with (go_at_call 174; refine (takeHere_yes _ _ k _ _ (by exact H.out) hs hl HI.out).mono ?_; rintro e w' ⟨rfl, hm⟩; have HM := hide hm; clear hm)
  go_end0
  exact ⟨rfl, unhide HM⟩

set_option maxHeartbeats 400000 in
theorem mustHere_no (b : Nat) (s : ByteArray) (k : Nat) (c : Int) (w : World) (hr : Rd 152 b s k w) (hl : 0 ≤ c) (h : inR s k c c = false) :
    Calls Tryz.prog 175 #[.pointer (some ⟨b, 0, none⟩), .int .u8 c] w fun e w' => e = .panicked [{ v := .iface 110 (.agg #[.int .i64 (k : Int)]), recovered := false }] ∧ Moved 152 b s k w w' := by
  have H : Hid (Rd 152 b s k w) := hr
  have HI : Hid (inR s k c c = false) := h
  clear hr h
  go_enter Tryz.func175, Tryz.ntmps175
  go_wp2_with (go_at_call 174; refine (takeHere_no _ _ k _ _ (by exact H.out) hl HI.out).mono ?_; rintro e w' ⟨rfl, hm⟩; have h1 := hm.rd.at; have HM := hide hm; clear hm)
  exact ⟨rfl, rfl, unhide HM⟩

end Go.Proofs.YthnggjaecngbiaaGreatDoor

