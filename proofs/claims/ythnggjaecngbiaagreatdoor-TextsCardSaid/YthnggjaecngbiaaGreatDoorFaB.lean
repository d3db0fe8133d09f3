import Derived.Test.YthnggjaecngbiaaGreatDoorPlE
namespace Go.Proofs.YthnggjaecngbiaaGreatDoor
open Go.RowKit
set_option maxRecDepth 100000 in
set_option maxHeartbeats 1600000 in
theorem plain_any (s : ByteArray) (w : World) (hm : s.size ≤ maxLen) (ht : Tab w) :
  Calls Tryz.prog 13 #[.string s] w fun e w' => e = .returned (.tuple #[.string ⟨(plainR s).1.toArray⟩, .int .i64 ((plainR s).2.1 : Int), .int .i64 (plainR s).2.2]) ∧ Below w.heap.size w w' := by
 have hmf : ∀ (fn : Fn) (first cap : Array Value) (w : World), (Instr.makeFunc fn first cap).run Tryz.prog w = .ok (.func fn first cap) w := fun _ _ _ _ => rfl
 have HT := hide ht
 have HM := hide hm
 clear ht hm
 have HD0 : Hid (Door w.heap.size ⟨#[]⟩ 0 0 (((w.alloc (.cells #[.string ⟨#[]⟩] 9)).alloc (.cells #[.int .i64 0] 3)).alloc (.cells #[.int .i64 0] 27))) := by
  refine ⟨?_, ?_, ?_⟩
  ·rw [Below.heap_alloc _ _ _ (by simp; omega), Below.heap_alloc _ _ _ (by simp)]; exact alloc_last w _
  ·rw [Below.heap_alloc _ _ _ (by simp)]
   have := alloc_last (w.alloc (.cells #[.string ⟨#[]⟩] 9)) (.cells #[.int .i64 0] 3)
   simpa using this
  ·have := alloc_last ((w.alloc (.cells #[.string ⟨#[]⟩] 9)).alloc (.cells #[.int .i64 0] 3)) (.cells #[.int .i64 0] 27)
   simpa using this
 have hb0 : Below w.heap.size w (((w.alloc (.cells #[.string ⟨#[]⟩] 9)).alloc (.cells #[.int .i64 0] 3)).alloc (.cells #[.int .i64 0] 27)) := (((Below.refl _ w).alloc (Nat.le_refl _) _).alloc (by simp) _).alloc (by simp; omega) _
 have HB0 := hide hb0
 clear hb0
 go_enter_defers Tryz.func13, Tryz.ntmps13
 go_wp2_with fail
 refine (itemsOf_any s _ (uh HM)).mono ?_
 rintro e w1 (⟨p, hp, rfl, hb1⟩ | ⟨cn, ce, ao, n, cap, hp, hz, rfl, hb1⟩ | ⟨its, cn, ao, n, cap, xs, hp, rfl, hb1, hxs, hit, hwf, hx1, hn⟩)
 ·have HF : Hid (plainR s = ([], p, 1)) := hide (by rw [plainR_of, hp])
  have HD1 := hide ((uh HD0).below hb1)
  have HB1 := hide (below_after (uh HB0) hb1)
  clear hp hb1
  go_wp2_with fail
  refine leaves_cons (f := 37) (args := #[.pointer (some ⟨w.heap.size, 0, none⟩), .pointer (some ⟨w.heap.size + 1, 0, none⟩), .pointer (some ⟨w.heap.size + 1 + 1, 0, none⟩)]) (by simp) (by simp [go_sem]) ?_
  refine (catch_panicking w.heap.size w.heap.size _ _ _ _ [] _ (uh HD1) (Nat.le_refl _)).mono ?_
  rintro e u' w'' ⟨rfl, rfl, hd, hb⟩
  obtain ⟨⟨c0, c1, c2⟩, _⟩ := hd.cells
  rw [uh HF]
  simp [Leaves, settle, results, Tryz.results13, go_sem, c0, c1, c2]
  exact (uh HB1).trans hb
 ·have HF : Hid (plainR s = ([], cn, ce)) := hide (by rw [plainR_of, hp])
  have HD2 := hide ((uh HD0).below hb1)
  have HB2 := hide (below_after (uh HB0) hb1)
  obtain ⟨⟨c0, c1, c2⟩, f0, f1, f2⟩ := ((uh HD0).below hb1).cells
  have HD3 : Hid (Door w.heap.size ⟨#[]⟩ cn ce ((w1.setCell ⟨w.heap.size + 1, 0, none⟩ (.int .i64 (cn : Int))).setCell ⟨w.heap.size + 1 + 1, 0, none⟩ (.int .i64 ce))) := (uh HD2).put2
  have HB3 : Hid (Below w.heap.size w ((w1.setCell ⟨w.heap.size + 1, 0, none⟩ (.int .i64 (cn : Int))).setCell ⟨w.heap.size + 1 + 1, 0, none⟩ (.int .i64 ce))) := ((uh HB2).setCell (p := ⟨w.heap.size + 1, 0, none⟩) (by simp only; omega) _).setCell (p := ⟨w.heap.size + 1 + 1, 0, none⟩) (by simp only; omega) _
  have hzb : (ce != 0) = true := by rw [bne_iff_ne]; exact hz
  clear hp hb1 hz HD0 HB0
  go_wp2_with fail
  generalize (w1.setCell ⟨w.heap.size + 1, 0, none⟩ (.int .i64 (cn : Int))).setCell ⟨w.heap.size + 1 + 1, 0, none⟩ (.int .i64 ce) = w3 at *
  clear c0 c1 c2 f0 f1 f2 HD2 HB2
  obtain ⟨⟨c0, c1, c2⟩, f0, f1, f2⟩ := (uh HD3).cells
  go_region
  all_goals
   go_wp2
   refine leaves_cons (f := 37) (args := #[.pointer (some ⟨w.heap.size, 0, none⟩), .pointer (some ⟨w.heap.size + 1, 0, none⟩), .pointer (some ⟨w.heap.size + 1 + 1, 0, none⟩)]) (by simp) (by simp [go_sem]) ?_
   refine (catch_idle w.heap.size _).mono ?_
   rintro e u' w'' ⟨rfl, rfl, rfl⟩
   rw [uh HF]
   simp [Leaves, settle, results, Tryz.results13, go_sem, c0, c1, c2]
   exact ((((uh HB3).setCell (p := ⟨w.heap.size, 0, none⟩) (Nat.le_refl _) _).setCell (p := ⟨w.heap.size + 1, 0, none⟩) (by simp only; omega) _).setCell (p := ⟨w.heap.size + 1 + 1, 0, none⟩) (by simp only; omega) _).drew
 ·subst hn
  have HX := hide hxs
  have HW := hide hwf
  have HF : Hid (plainR s = (planOut its, its.length, 0)) := hide (by rw [plainR_of, hp])
  have HD2 := hide ((uh HD0).below hb1)
  have HB2 := hide (below_after (uh HB0) hb1)
  obtain ⟨⟨c0, c1, c2⟩, f0, f1, f2⟩ := ((uh HD0).below hb1).cells
  have HD3 : Hid (Door w.heap.size ⟨#[]⟩ cn 0 ((w1.setCell ⟨w.heap.size + 1, 0, none⟩ (.int .i64 (cn : Int))).setCell ⟨w.heap.size + 1 + 1, 0, none⟩ (.int .i64 0))) := (uh HD2).put2
  have HB3 : Hid (Below w.heap.size w ((w1.setCell ⟨w.heap.size + 1, 0, none⟩ (.int .i64 (cn : Int))).setCell ⟨w.heap.size + 1 + 1, 0, none⟩ (.int .i64 0))) := ((uh HB2).setCell (p := ⟨w.heap.size + 1, 0, none⟩) (by simp only; omega) _).setCell (p := ⟨w.heap.size + 1 + 1, 0, none⟩) (by simp only; omega) _
  have HV3 := hide (hit.all (w' := (w1.setCell ⟨w.heap.size + 1, 0, none⟩ (.int .i64 (cn : Int))).setCell ⟨w.heap.size + 1 + 1, 0, none⟩ (.int .i64 0)) (fun g hg _ => by
   simp at hg
   rw [Below.heap_setCell _ _ _ _ (by simp only; omega), Below.heap_setCell _ _ _ _ (by simp only; omega)]))
  clear hp hb1 hxs hit hwf HD0 HB0
  go_wp2_with fail
  generalize (w1.setCell ⟨w.heap.size + 1, 0, none⟩ (.int .i64 (cn : Int))).setCell ⟨w.heap.size + 1 + 1, 0, none⟩ (.int .i64 0) = w3 at *
  clear c0 c1 c2 f0 f1 f2 HD2 HB2
  refine (write_any _ xs _ (ItemsV.of_at (uh HV3)) (uh HW) hx1 (tab_below (uh HB3) (uh HT))).mono ?_
  rintro e w4 ⟨rfl, hb4⟩
  rw [uh HX]
  have HD4 := hide ((uh HD3).below hb4)
  have HB4 := hide (below_after (uh HB3) hb4)
  obtain ⟨⟨c0, c1, c2⟩, f0, f1, f2⟩ := ((uh HD3).below hb4).cells
  clear hb4 HD3 HB3 HV3
  go_wp2_with fail
  refine leaves_cons (f := 37) (args := #[.pointer (some ⟨w.heap.size, 0, none⟩), .pointer (some ⟨w.heap.size + 1, 0, none⟩), .pointer (some ⟨w.heap.size + 1 + 1, 0, none⟩)]) (by simp) (by simp [go_sem]) ?_
  refine (catch_idle w.heap.size _).mono ?_
  rintro e u' w'' ⟨rfl, rfl, rfl⟩
  have hlx : its.length = xs.length := by rw [← uh HX]; simp
  rw [uh HF]
  simp [Leaves, settle, results, Tryz.results13, go_sem, c0, c1, c2, hlx]
  exact (((uh HB4).setCell (p := ⟨w.heap.size, 0, none⟩) (Nat.le_refl _) _).setCell (p := ⟨w.heap.size + 1, 0, none⟩) (by simp only; omega) _).setCell (p := ⟨w.heap.size + 1 + 1, 0, none⟩) (by simp only; omega) _
end Go.Proofs.YthnggjaecngbiaaGreatDoor
