import Derived.Test.YtdgbmcbkbkbdoaaGreatDoorExA
namespace Go.Proofs.YtdgbmcbkbkbdoaaGreatDoor
open Go.RowKit

theorem shownOut_len {p : PVal} (h : -9999999 ≤ p.n) (h' : p.n ≤ 9999999) : (shownOut p).length ≤ 8 := by
  have := itoa_len h h'
  unfold shownOut
  split
  · simp
  · split
    · simp
    · exact this

set_option maxRecDepth 100000 in
set_option maxHeartbeats 1600000 in
theorem writeKnown_any {W0 : World} {b : Nat} {l : List UInt8} {w : World} (it : PItem) (co ro : Option Addr) (cn cc rn rc : Nat) (p : PVal) (ms : List Nat) (mo : Option Addr) (mc : Nat) (h : WInv W0 b l w) (hl : l.length ≤ 10000000) (ht : Tab W0) (hv : w.ownsRow W0.heap.size 3 1 (.slice mo ms.length mc) ms.length (nats ms)) (hml : ms.length ≤ 1000) (hms : ∀ i ∈ ms, i ≤ 1000) (hp : -9999999 ≤ p.n) (hp' : p.n ≤ 9999999) :
    Calls Tryz.prog 62 #[.pointer (some ⟨b, 0, none⟩), .agg #[.string it.name, .bool it.isT, .int .i64 (it.marks : Int), .int .u8 it.policy, .slice co cn cc, .int .i64 (it.drops : Int), .slice ro rn rc], .agg #[.int .i64 p.kind, .int .i64 p.n, .slice mo ms.length mc]] w fun e w' => e = .returned (.tuple #[]) ∧ WInv W0 b (l ++ knownOut it (p, ms)) w' ∧ Lib.OthersKept 5 (some b) w w' := by
  obtain ⟨nm, bT, mk, po, cs, dr, rl⟩ := it
  simp only
  obtain ⟨w0, hw0⟩ : ∃ w0, w0 = ((w.alloc (.cells #[.string nm, .bool bT, .int .i64 (mk : Int), .int .u8 po, .slice co cn cc, .int .i64 (dr : Int), .slice ro rn rc] 114)).alloc (.cells #[.int .i64 p.kind, .int .i64 p.n, .slice mo ms.length mc] 123)) := ⟨_, rfl⟩
  have hb0 : Below w.heap.size w w0 := by rw [hw0]; exact ((Below.refl _ w).alloc (Nat.le_refl _) _).alloc (by simp) _
  have hN0 : Box w.heap.size #[.string nm, .bool bT, .int .i64 (mk : Int), .int .u8 po, .slice co cn cc, .int .i64 (dr : Int), .slice ro rn rc] 114 w0 := by
    unfold Box; rw [hw0, Below.heap_alloc _ _ _ (by simp)]; exact alloc_last w _
  have hN1 : Box (w.heap.size + 1) #[.int .i64 p.kind, .int .i64 p.n, .slice mo ms.length mc] 123 w0 := by
    unfold Box; rw [hw0]
    have := alloc_last (w.alloc (.cells #[.string nm, .bool bT, .int .i64 (mk : Int), .int .u8 po, .slice co cn cc, .int .i64 (dr : Int), .slice ro rn rc] 114)) (.cells #[.int .i64 p.kind, .int .i64 p.n, .slice mo ms.length mc] 123)
    simpa using this
  have hbw := h.blk
  have HW0 := hide (h.below hb0)
  have HO0 := hide (others_below (e := 5) (b := some b) hb0)
  have HV0 := hide (owns_below hv hb0)
  have HN0 := hide hN0
  have HN1 := hide hN1
  have HT := hide ht
  have HMS := hide hms
  have hsl := shownOut_len hp hp'
  obtain ⟨⟨d0, d1, d2⟩, _⟩ := box3 hN1
  have hs1 := lt_of_block hN1
  have hne0 : w.heap.size ≠ b := by omega
  have hne1 : w.heap.size + 1 ≠ b := by omega
  clear h hb0 hv hN0 hN1 ht hms
  go_enter Tryz.func62, Tryz.ntmps62
  go_wp2_with fail
  rw [← hw0]
  clear hw0
  refine (valueText_any p _ hp hp' (tab_below (unhide HW0).bl (unhide HT))).mono ?_
  rintro e w1 ⟨rfl, hb1⟩
  have HW1 := hide ((unhide HW0).below hb1)
  have HO1 := hide ((unhide HO0).trans (others_below hb1))
  have HV1 := hide (owns_below (unhide HV0) hb1)
  have HN01 : Hid (Box _ _ _ w1) := hide ((hb1.block _ (lt_of_block (unhide HN0))).trans (unhide HN0))
  have HN11 : Hid (Box _ _ _ w1) := hide ((hb1.block _ (lt_of_block (unhide HN1))).trans (unhide HN1))
  clear hb1 d0 d1 d2 hs1
  go_wp2_with fail
  refine (ws_any _ (unhide HW1) (by omega) (by show (shownOut p).toArray.size ≤ _; rw [List.size_toArray]; omega)).mono ?_
  rintro e w2 ⟨rfl, hw2, ho2⟩
  have HW2 := hide hw2
  have HO2 := hide ((unhide HO1).trans ho2)
  have HV2 := hide (owns_kept (unhide HW1) ho2 (by decide) (by decide) (unhide HV1))
  have hN02 := (unhide HN01).kept ho2 hne0 (by decide)
  have hN12 := (unhide HN11).kept ho2 hne1 (by decide)
  have HN12 := hide hN12
  obtain ⟨⟨c0, c1, c2, c3, c4, c5, c6⟩, f0, f1, f2, f3, f4, f5, f6⟩ := cells7 hN02
  have hs2 := lt_of_block hN02
  clear hw2 ho2 hN02 hN12 c0 c2 c3 c4 c6 f0 f1 f2 f3 f4 f5 f6
  cases bT with
  | false =>
    go_wp2_with fail
    go_end0
    refine ⟨rfl, ?_, unhide HO2⟩
    have := unhide HW2
    simpa [knownOut] using this
  | true =>
    by_cases hd : dr = 0
    · subst hd
      go_wp2_with fail
      refine (wb_any _ (unhide HW2) (by simp; omega) (by simp) (by simp)).mono ?_
      rintro e w3 ⟨rfl, hw3, ho3⟩
      have HW3 := hide hw3
      have HO3 := hide ((unhide HO2).trans ho3)
      have HV3 := hide (owns_kept (unhide HW2) ho3 (by decide) (by decide) (unhide HV2))
      have hN13 := (unhide HN12).kept ho3 hne1 (by decide)
      obtain ⟨⟨d0, d1, d2⟩, _⟩ := box3 hN13
      have hs3 := lt_of_block hN13
      clear hw3 ho3 hN13
      go_wp2_with fail
      refine (writeRules_any _ ms (unhide HW3) (by simp; omega) (unhide HT) (unhide HV3) hml (unhide HMS)).mono ?_
      rintro e w4 ⟨rfl, hw4, ho4⟩
      have HW4 := hide hw4
      have HO4 := hide ((unhide HO3).trans ho4)
      clear hw4 ho4
      go_wp2_with fail
      go_end0
      refine ⟨rfl, ?_, unhide HO4⟩
      have := unhide HW4
      simpa [knownOut, u8] using this
    · have hdb : ((dr : Int) == 0) = false := by simpa using hd
      have HD := hide hd
      clear hd
      go_wp2_with fail
      go_end0
      refine ⟨rfl, ?_, unhide HO2⟩
      have := unhide HW2
      simpa [knownOut, unhide HD] using this
end Go.Proofs.YtdgbmcbkbkbdoaaGreatDoor
