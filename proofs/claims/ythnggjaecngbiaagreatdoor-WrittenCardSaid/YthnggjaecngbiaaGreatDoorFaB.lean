import Derived.Test.YthnggjaecngbiaaGreatDoorPlE
import Derived.Lib.ItoaMem
namespace Go.Proofs.YthnggjaecngbiaaGreatDoor
open Go.RowKit

set_option maxRecDepth 100000 in
set_option maxHeartbeats 1600000 in
theorem plain_any (s : ByteArray) (w : World) (hm : s.size ≤ maxLen) (ht : Tab w) :
    Calls Tryz.prog 13 #[.string s] w fun e w' => e = .returned (.tuple #[.string ⟨(plainR s).1.toArray⟩, .int .i64 ((plainR s).2.1 : Int), .int .i64 (plainR s).2.2]) ∧ Below w.heap.size w w' := by
  have hmf : ∀ (fn : Fn) (first cap : Array Value) (w : World), (Instr.makeFunc fn first cap).run Tryz.prog w = .ok (.func fn first cap) w := fun _ _ _ _ => rfl
  have HT := hide ht
  have HM := hide hm
  clear ht hm
  have HD0 : Hid (Door w.heap.size ⟨#[]⟩ 0 0 (((w.alloc (.cells #[.string ⟨#[]⟩] 9)).alloc (.cells #[.int .i64 0] 3)).alloc (.cells #[.int .i64 0] 27))) := by
    refine ⟨?_, ?_, ?_⟩
    · rw [Below.heap_alloc _ _ _ (by simp; omega), Below.heap_alloc _ _ _ (by simp)]; exact alloc_last w _
    · rw [Below.heap_alloc _ _ _ (by simp)]
      have := alloc_last (w.alloc (.cells #[.string ⟨#[]⟩] 9)) (.cells #[.int .i64 0] 3)
      simpa using this
    · have := alloc_last ((w.alloc (.cells #[.string ⟨#[]⟩] 9)).alloc (.cells #[.int .i64 0] 3)) (.cells #[.int .i64 0] 27)
      simpa using this
  have hb0 : Below w.heap.size w (((w.alloc (.cells #[.string ⟨#[]⟩] 9)).alloc (.cells #[.int .i64 0] 3)).alloc (.cells #[.int .i64 0] 27)) := (((Below.refl _ w).alloc (Nat.le_refl _) _).alloc (by simp) _).alloc (by simp; omega) _
  have HB0 := hide hb0
  clear hb0
  go_enter_defers Tryz.func13, Tryz.ntmps13
  go_wp2_with fail
  refine (itemsOf_any s _ (unhide HM)).mono ?_
  rintro e w1 (⟨p, hp, rfl, hb1⟩ | ⟨cn, ce, ao, n, cap, hp, hz, rfl, hb1⟩ | ⟨its, cn, ao, n, cap, xs, hp, rfl, hb1, hxs, hit, hwf, hx1, hn⟩)
  · have HF : Hid (plainR s = ([], p, 1)) := hide (by rw [plainR_of, hp])
    have HD1 := hide ((unhide HD0).below hb1)
    have HB1 := hide (below_after (unhide HB0) hb1)
    clear hp hb1
    go_wp2_with fail
    refine leaves_cons (f := 37) (args := #[.pointer (some ⟨w.heap.size, 0, none⟩), .pointer (some ⟨w.heap.size + 1, 0, none⟩), .pointer (some ⟨w.heap.size + 1 + 1, 0, none⟩)]) (by simp) (by simp [go_sem]) ?_
    refine (catch_panicking w.heap.size w.heap.size _ _ _ _ [] _ (unhide HD1) (Nat.le_refl _)).mono ?_
    rintro e u' w'' ⟨rfl, rfl, hd, hb⟩
    obtain ⟨⟨c0, c1, c2⟩, _⟩ := hd.cells
    rw [unhide HF]
    simp [Leaves, settle, results, Tryz.results13, go_sem, c0, c1, c2]
    exact (unhide HB1).trans hb
  · have HF : Hid (plainR s = ([], cn, ce)) := hide (by rw [plainR_of, hp])
    have HD2 := hide ((unhide HD0).below hb1)
    have HB2 := hide (below_after (unhide HB0) hb1)
    obtain ⟨⟨c0, c1, c2⟩, f0, f1, f2⟩ := ((unhide HD0).below hb1).cells
    have HD3 : Hid (Door w.heap.size ⟨#[]⟩ cn ce ((w1.setCell ⟨w.heap.size + 1, 0, none⟩ (.int .i64 (cn : Int))).setCell ⟨w.heap.size + 1 + 1, 0, none⟩ (.int .i64 ce))) := (unhide HD2).put2
    have HB3 : Hid (Below w.heap.size w ((w1.setCell ⟨w.heap.size + 1, 0, none⟩ (.int .i64 (cn : Int))).setCell ⟨w.heap.size + 1 + 1, 0, none⟩ (.int .i64 ce))) := ((unhide HB2).setCell (p := ⟨w.heap.size + 1, 0, none⟩) (by simp only; omega) _).setCell (p := ⟨w.heap.size + 1 + 1, 0, none⟩) (by simp only; omega) _
    have hzb : (ce != 0) = true := by rw [bne_iff_ne]; exact hz
    clear hp hb1 hz HD0 HB0
    go_wp2_with fail
    generalize (w1.setCell ⟨w.heap.size + 1, 0, none⟩ (.int .i64 (cn : Int))).setCell ⟨w.heap.size + 1 + 1, 0, none⟩ (.int .i64 ce) = w3 at *
    clear c0 c1 c2 f0 f1 f2 HD2 HB2
    obtain ⟨⟨c0, c1, c2⟩, f0, f1, f2⟩ := (unhide HD3).cells
    go_region
    all_goals
      go_wp2
      refine leaves_cons (f := 37) (args := #[.pointer (some ⟨w.heap.size, 0, none⟩), .pointer (some ⟨w.heap.size + 1, 0, none⟩), .pointer (some ⟨w.heap.size + 1 + 1, 0, none⟩)]) (by simp) (by simp [go_sem]) ?_
      refine (catch_idle w.heap.size _).mono ?_
      rintro e u' w'' ⟨rfl, rfl, rfl⟩
      rw [unhide HF]
      simp [Leaves, settle, results, Tryz.results13, go_sem, c0, c1, c2]
      exact ((((unhide HB3).setCell (p := ⟨w.heap.size, 0, none⟩) (Nat.le_refl _) _).setCell (p := ⟨w.heap.size + 1, 0, none⟩) (by simp only; omega) _).setCell (p := ⟨w.heap.size + 1 + 1, 0, none⟩) (by simp only; omega) _).drew
  · subst hn
    have HX := hide hxs
    have HW := hide hwf
    have HF : Hid (plainR s = (planOut its, its.length, 0)) := hide (by rw [plainR_of, hp])
    have HD2 := hide ((unhide HD0).below hb1)
    have HB2 := hide (below_after (unhide HB0) hb1)
    obtain ⟨⟨c0, c1, c2⟩, f0, f1, f2⟩ := ((unhide HD0).below hb1).cells
    have HD3 : Hid (Door w.heap.size ⟨#[]⟩ cn 0 ((w1.setCell ⟨w.heap.size + 1, 0, none⟩ (.int .i64 (cn : Int))).setCell ⟨w.heap.size + 1 + 1, 0, none⟩ (.int .i64 0))) := (unhide HD2).put2
    have HB3 : Hid (Below w.heap.size w ((w1.setCell ⟨w.heap.size + 1, 0, none⟩ (.int .i64 (cn : Int))).setCell ⟨w.heap.size + 1 + 1, 0, none⟩ (.int .i64 0))) := ((unhide HB2).setCell (p := ⟨w.heap.size + 1, 0, none⟩) (by simp only; omega) _).setCell (p := ⟨w.heap.size + 1 + 1, 0, none⟩) (by simp only; omega) _
    have HV3 := hide (hit.all (w' := (w1.setCell ⟨w.heap.size + 1, 0, none⟩ (.int .i64 (cn : Int))).setCell ⟨w.heap.size + 1 + 1, 0, none⟩ (.int .i64 0)) (fun g hg _ => by
      simp at hg
      rw [Below.heap_setCell _ _ _ _ (by simp only; omega), Below.heap_setCell _ _ _ _ (by simp only; omega)]))
    clear hp hb1 hxs hit hwf HD0 HB0
    go_wp2_with fail
    generalize (w1.setCell ⟨w.heap.size + 1, 0, none⟩ (.int .i64 (cn : Int))).setCell ⟨w.heap.size + 1 + 1, 0, none⟩ (.int .i64 0) = w3 at *
    clear c0 c1 c2 f0 f1 f2 HD2 HB2
    refine (write_any _ xs _ (ItemsV.of_at (unhide HV3)) (unhide HW) hx1 (tab_below (unhide HB3) (unhide HT))).mono ?_
    rintro e w4 ⟨rfl, hb4⟩
    rw [unhide HX]
    have HD4 := hide ((unhide HD3).below hb4)
    have HB4 := hide (below_after (unhide HB3) hb4)
    obtain ⟨⟨c0, c1, c2⟩, f0, f1, f2⟩ := ((unhide HD3).below hb4).cells
    clear hb4 HD3 HB3 HV3
    go_wp2_with fail
    refine leaves_cons (f := 37) (args := #[.pointer (some ⟨w.heap.size, 0, none⟩), .pointer (some ⟨w.heap.size + 1, 0, none⟩), .pointer (some ⟨w.heap.size + 1 + 1, 0, none⟩)]) (by simp) (by simp [go_sem]) ?_
    refine (catch_idle w.heap.size _).mono ?_
    rintro e u' w'' ⟨rfl, rfl, rfl⟩
    have hlx : its.length = xs.length := by rw [← unhide HX]; simp
    rw [unhide HF]
    simp [Leaves, settle, results, Tryz.results13, go_sem, c0, c1, c2, hlx]
    exact (((unhide HB4).setCell (p := ⟨w.heap.size, 0, none⟩) (Nat.le_refl _) _).setCell (p := ⟨w.heap.size + 1, 0, none⟩) (by simp only; omega) _).setCell (p := ⟨w.heap.size + 1 + 1, 0, none⟩) (by simp only; omega) _

end Go.Proofs.YthnggjaecngbiaaGreatDoor

namespace Go.Proofs.YthnggjaecngbiaaGreatDoor
open Go.RowKit

/-- From k on the text reads l. -/
def Tl (s : ByteArray) (k : Nat) (l : List UInt8) : Prop := k ≤ s.size ∧ s.data.toList.drop k = l
def headB : List UInt8 → Int
  | [] => -1
  | c :: _ => (c.toNat : Int)

theorem Tl.size {s : ByteArray} {k : Nat} {l : List UInt8} (h : Tl s k l) : k + l.length = s.size := by
  obtain ⟨h1, h2⟩ := h
  rw [← h2, List.length_drop]
  simp only [Array.length_toList, ByteArray.size_data]
  omega
theorem Tl.app {s : ByteArray} {k : Nat} {a b : List UInt8} (h : Tl s k (a ++ b)) : Tl s (k + a.length) b := by
  have h3 := h.size
  refine ⟨by simp at h3; omega, ?_⟩
  rw [← List.drop_drop, h.2, List.drop_left]
theorem Tl.cons {s : ByteArray} {k : Nat} {c : UInt8} {b : List UInt8} (h : Tl s k (c :: b)) : Tl s (k + 1) b := Tl.app (a := [c]) h
theorem Tl.byte {s : ByteArray} {k : Nat} {l : List UInt8} (h : Tl s k l) : byteAt s k = headB l := by
  have h3 := h.size
  obtain ⟨h1, h2⟩ := h
  cases l with
  | nil => exact byteAt_out (by simp at h3; omega)
  | cons c b =>
    have hk : k < s.size := by simp at h3; omega
    rw [byteAt_in hk]
    have h4 : s.data.toList[k]? = some c := by
      have := congrArg (fun l => l[0]?) h2
      simpa [List.getElem?_drop] using this
    have h5 : s[k] = c := by
      rw [Array.getElem?_toList] at h4
      have h6 := (Array.getElem?_eq_some_iff.1 h4).2
      exact h6
    rw [h5]; rfl
theorem Tl.rng {s : ByteArray} {k : Nat} {l : List UInt8} (h : Tl s k l) (lo hi : Int) : inR s k lo hi = decide (lo ≤ headB l ∧ headB l ≤ hi) := by
  unfold inR; rw [h.byte]
theorem Tl.next {s : ByteArray} {k : Nat} {l : List UInt8} (h : Tl s k l) (hb : isBlank (headB l) = false) : nextP s k = k := nextP_stop (by rw [h.byte]; exact hb)
theorem Tl.skip {s : ByteArray} {p : Int → Bool} : ∀ {a b : List UInt8} {k : Nat}, Tl s k (a ++ b) → (∀ c ∈ a, p (c.toNat : Int) = true) → p (headB b) = false → skipTo p s (s.size - k) k = k + a.length
  | [], b, k, h, _, hb => by rw [skipTo_stop (by rw [h.byte]; exact hb)]; rfl
  | c :: a, b, k, h, ha, hb => by
    have h3 := h.size
    rw [skipTo_step (by simp at h3; omega) (by rw [h.byte]; exact ha c (by simp)), Tl.skip (a := a) (b := b) (k := k + 1) h.cons (fun x hx => ha x (by simp [hx])) hb]
    simp; omega
theorem Tl.ext {s : ByteArray} {k : Nat} {a b : List UInt8} (h : Tl s k (a ++ b)) : s.extract k (k + a.length) = ⟨a.toArray⟩ := by
  have h2 := h.2
  apply ByteArray.ext
  rw [ByteArray.data_extract]
  apply Array.toList_inj.1
  rw [Array.toList_extract, List.extract_eq_take_drop, h2]
  simp
theorem Tl.blank {s : ByteArray} {k : Nat} {c : UInt8} {b : List UInt8} (h : Tl s k (c :: b)) (hc : isBlank (c.toNat : Int) = true) : nextP s k = nextP s (k + 1) := by
  have h3 := h.size
  exact nextP_step (by simp at h3; omega) (by rw [h.byte]; exact hc)

/-- A name as the reader takes it. -/
def NameOK (x : ByteArray) : Prop := isNameB x = true ∧ ∀ c ∈ x.data.toList, isLow (c.toNat : Int) = true
theorem low_not_blank {c : Int} (h : isLow c = true) : isBlank c = false := by
  unfold isLow at h; unfold isBlank; simp at h ⊢; omega
theorem NameOK.ne {x : ByteArray} (h : NameOK x) : x.data.toList ≠ [] := by
  intro h2
  have h1 := h.1
  unfold isNameB at h1
  rw [ByteArray.toList_eq, h2] at h1
  simp at h1
theorem NameOK.head {x : ByteArray} (h : NameOK x) (b : List UInt8) : isLow (headB (x.data.toList ++ b)) = true := by
  have h1 := h.ne
  have h2 := h.2
  cases hx : x.data.toList with
  | nil => exact absurd hx h1
  | cons c r => exact h2 c (by rw [hx]; simp)
theorem Tl.low {s : ByteArray} {k : Nat} {x : ByteArray} {b : List UInt8} (h : Tl s k (x.data.toList ++ b)) (hx : ∀ c ∈ x.data.toList, isLow (c.toNat : Int) = true) (hb : isLow (headB b) = false) : lowEnd s k = k + x.size ∧ s.extract k (lowEnd s k) = x := by
  have h1 : lowEnd s k = k + x.data.toList.length := Tl.skip h hx hb
  have h2 := h.ext
  rw [← h1] at h2
  exact ⟨by rw [h1]; simp, by rw [h2]⟩
theorem Tl.name {s : ByteArray} {k : Nat} {x : ByteArray} {b : List UInt8} (h : Tl s k (x.data.toList ++ b)) (hx : NameOK x) (hb : isLow (headB b) = false) : nameR s k = .inr (x, k + x.size) := by
  have h0 : nextP s k = k := h.next (low_not_blank (hx.head b))
  obtain ⟨h1, h2⟩ := h.low hx.2 hb
  unfold nameR
  rw [h0, h2, h1, if_pos hx.1]
theorem nameT_next {s : ByteArray} {k m : Nat} (h : nextP s k = nextP s m) : nameR s k = nameR s m := by unfold nameR; rw [h]

theorem dd_dig (u : Nat) : ∀ c ∈ Lib.decDigits u, isDig (c.toNat : Int) = true := by
  induction u using Nat.strongRecOn with
  | _ u ih =>
    intro c hc
    rw [Lib.decDigits] at hc
    split at hc
    · simp at hc; subst hc; unfold isDig
      have : (48 + u) % 256 = 48 + u := by omega
      simp [this]; omega
    · simp at hc
      rcases hc with hc | hc
      · exact ih (u / 10) (by omega) c hc
      · subst hc; unfold isDig
        have : (48 + u % 10) % 256 = 48 + u % 10 := by omega
        simp [this]; omega
theorem Tl.val {s : ByteArray} {k : Nat} (u : Nat) : ∀ {b : List UInt8}, Tl s k (Lib.decDigits u ++ b) → digV s k (Lib.decDigits u).length = (u : Int) := by
  induction u using Nat.strongRecOn with
  | _ u ih =>
    intro b h
    rw [Lib.decDigits] at h ⊢
    split
    · rename_i hu
      rw [dif_pos hu] at h
      have h1 := h.byte
      have : (48 + u) % 256 = 48 + u := by omega
      simp [digV, h1, headB, this]
      omega
    · rename_i hu
      rw [dif_neg hu, List.append_assoc] at h
      have h1 := ih (u / 10) (by omega) h
      have h2 := h.app.byte
      have : (48 + u % 10) % 256 = 48 + u % 10 := by omega
      rw [List.length_append, List.length_singleton, digV, h1, h2]
      simp [headB, this]
      omega
theorem dd_len7 {u : Nat} (h : u ≤ 9999999) : 1 ≤ (Lib.decDigits u).length ∧ (Lib.decDigits u).length ≤ 7 := by
  rw [Lib.decDigits_length]
  refine ⟨Lib.nDigits_pos u, ?_⟩
  by_cases h7 : Lib.nDigits u ≤ 7
  · exact h7
  exfalso
  by_cases h0 : u < 10
  · rw [Lib.nDigits_small h0] at h7; omega
  iterate 7
    rw [Lib.nDigits] at h7
    split at h7
    · omega
  omega
theorem Tl.digits {s : ByteArray} {k : Nat} {u : Nat} {b : List UInt8} (h : Tl s k (Lib.decDigits u ++ b)) (hu : u ≤ 9999999) (hb : isDig (headB b) = false) : digitsR s k = .inr ((u : Int), k + (Lib.decDigits u).length) := by
  have h1 : digEnd s k = k + (Lib.decDigits u).length := Tl.skip h (dd_dig u) hb
  have h2 := dd_len7 hu
  unfold digitsR
  rw [h1, show k + (Lib.decDigits u).length - k = (Lib.decDigits u).length by omega, if_neg (by omega), if_neg (by omega), h.val]
theorem dd_head (u : Nat) (b : List UInt8) : isDig (headB (Lib.decDigits u ++ b)) = true := by
  have h := dd_dig u
  cases hx : Lib.decDigits u with
  | nil =>
    have := Lib.decDigits_length u
    have := Lib.nDigits_pos u
    rw [hx] at *; simp at *; omega
  | cons c r => exact h c (by rw [hx]; simp)
theorem dig_not_blank {c : Int} (h : isDig c = true) : isBlank c = false := by
  unfold isDig at h; unfold isBlank; simp at h ⊢; omega
theorem Tl.num {s : ByteArray} {k : Nat} {n : Int} {b : List UInt8} (h : Tl s k (Lib.itoa n ++ b)) (h1 : -9999999 ≤ n) (h2 : n ≤ 9999999) (hb : isDig (headB b) = false) : numberR s k = .inr (n, k + (Lib.itoa n).length) := by
  by_cases hn : n < 0
  · obtain ⟨u, rfl⟩ : ∃ u : Nat, n = -(u : Int) := ⟨n.natAbs, by omega⟩
    rw [Lib.itoa_neg u (by omega)] at h ⊢
    have h3 : nextP s k = k := h.next rfl
    have h4 : inR s k 45 45 = true := h.rng 45 45
    have h5 : digitsR s (k + 1) = .inr ((u : Int), k + 1 + (Lib.decDigits u).length) := Tl.digits h.cons (by omega) hb
    unfold numberR numAt
    rw [h3, h4]
    simp only [adv, if_true, h5, neg]
    simp; omega
  · obtain ⟨u, rfl⟩ : ∃ u : Nat, n = (u : Int) := ⟨n.toNat, by omega⟩
    rw [Lib.itoa_nonneg] at h ⊢
    have hd := dd_head u b
    have h3 : nextP s k = k := h.next (dig_not_blank hd)
    have h4 : inR s k 45 45 = false := by
      rw [h.rng]; unfold isDig at hd; simp at hd ⊢; omega
    have h5 := Tl.digits h (by omega) hb
    unfold numberR numAt
    rw [h3, h4]
    simp [adv, h5, neg]
theorem numberT_next {s : ByteArray} {k m : Nat} (h : nextP s k = nextP s m) : numberR s k = numberR s m := by unfold numberR numAt; rw [h]

theorem Tl.marks {s : ByteArray} {k m : Nat} {b : List UInt8} (h : Tl s k (markOut m 3 ++ b)) (h1 : 1 ≤ m) (h2 : m ≤ 7) (hb : isLow (headB b) = false) : marksR s k = .inr (m, k + (markOut m 3).length) := by
  have hq : headB b < 97 ∨ 122 < headB b := by unfold isLow at hb; simp at hb; omega
  have key : ∀ (j : Nat) (l : List UInt8), Tl s j l → ∀ c : Int, inR s j c c = decide (headB l = c) := fun j l hl c => by
    rw [hl.rng]; rw [Bool.eq_iff_iff]; simp; omega
  have hn : ∀ c : Int, 97 ≤ c → c ≤ 99 → decide (headB b = c) = false := fun c _ _ => by simp; omega
  have n97 := hn 97 (by omega) (by omega)
  have n98 := hn 98 (by omega) (by omega)
  have n99 := hn 99 (by omega) (by omega)
  clear hn hq hb
  rcases (by omega : m = 1 ∨ m = 2 ∨ m = 3 ∨ m = 4 ∨ m = 5 ∨ m = 6 ∨ m = 7) with e | e | e | e | e | e | e <;> subst e <;> simp [markOut] at h ⊢
  all_goals
    have k0 := key _ _ h
    try (have t1 := h.cons; have k1 := key _ _ t1)
    try (have t2 := t1.cons; have k2 := key _ _ t2)
    try (have t3 := t2.cons; have k3 := key _ _ t3)
    clear key
    unfold marksR mkSet mk3 mk2 mk1
    generalize headB b = hb at *
    simp [headB] at *
    simp [adv, bit, *]
end Go.Proofs.YthnggjaecngbiaaGreatDoor

