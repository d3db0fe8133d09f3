import Derived.Test.YthnggjaecngbiaaGreatDoorSrE
import Derived.Deep.RegionHeld3
import Derived.Test.YthnggjaecngbiaaGreatDoorExC
import Derived.Test.YthnggjaecngbiaaGreatDoorRgB
import Derived.Test.YthnggjaecngbiaaGreatDoorSkA
namespace Go.Proofs.YthnggjaecngbiaaGreatDoor
open Go.RowKit
set_option maxRecDepth 100000 in
set_option maxHeartbeats 6400000 in
theorem least_any (x : LItem) (many : Bool) (hr8 : x.it.rules.length ≤ 8) (hc3 : x.it.cols.length ≤ 3) (hwd : ∀ r ∈ x.it.rules, r.tests.length = x.it.cols.length ∧ ∀ t ∈ r.tests, WfT t) :
  ∀ (d : Nat) (v : List Int) (fv : Value) (w : World), ItemV w x → SlAt w 1 fv v.length (ints v) → v.length + d = x.it.cols.length →
  Calls Tryz.prog 105 #[iv x.it x.cv x.rv, fv, .func (.func (wantFn many)) #[] #[]] w (LeastOf x.it.cols x.it.rules many d v fv w) := by
 intro d
 induction d with
 | zero =>
  intro v fv w hx hfv hvl
  exact least_leaf x many v fv w hx hr8 hc3 hwd hfv (by omega)
 | succ d ih =>
  intro v fv w hx hfv hvl
  have hkl : v.length < x.it.cols.length := by omega
  have HCHO := hide (fun w' (h : Below w.heap.size w w') => choices_any x v fv w' (hx.below h) hr8 hc3 hwd (hfv.below h) hkl)
  have HREC := hide (fun (y : Int) (lv : Value) (w' : World) (h : Below w.heap.size w w') (hl : SlAt w' 1 lv (v ++ [y]).length (ints (v ++ [y]))) => ih (v ++ [y]) lv w' (hx.below h) hl (by simp; omega))
  obtain ⟨it, cv, rv0, zv⟩ := x
  obtain ⟨co, cc, hcv⟩ := hx.1.form
  obtain ⟨ro, rc, hrv⟩ := hx.2.2.1.form
  obtain ⟨fo, fc, rfl⟩ := hfv.form
  simp only at hcv hrv
  subst hcv hrv
  simp only at hr8 hc3 hvl hkl HCHO HREC ⊢
  have HF := hide hfv
  have hcl := choice_len (v := v) hr8 hc3 (fun r hr => (hwd r hr).1)
  clear hx ih hwd hfv
  simp only [iv, icells] at HCHO HREC ⊢
  have HLF : Hid (leastP it.cols it.rules many (d + 1) v = (choiceP it.cols it.rules v).findSome? fun y => leastP it.cols it.rules many d (v ++ [y])) := hide rfl
  have HLEN : Hid (∀ y r, leastP it.cols it.rules many d (v ++ [y]) = some r → 0 < r.length) := hide (fun y r hr => by
   have := searchC_len _ _ d (v ++ [y]) r hr
   rw [this]
   simp
   omega)
  obtain ⟨L, hL⟩ : ∃ L, choiceP it.cols it.rules v = L := ⟨_, rfl⟩
  rw [hL] at HCHO HLF
  have hL1 : L.length ≤ 1000 := by rw [← hL]; exact hcl
  obtain ⟨f, hf⟩ : ∃ f : Int → Option (List Int), (fun y => leastP it.cols it.rules many d (v ++ [y])) = f := ⟨_, rfl⟩
  rw [hf] at HLF
  have HFE : Hid (∀ y, f y = leastP it.cols it.rules many d (v ++ [y])) := hide (fun y => by rw [← hf])
  clear hL hf hcl
  obtain ⟨w1, hw1⟩ : ∃ w1, w1 = w.alloc (.cells #[.string it.name, .bool it.isT, .int .i64 (it.marks : Int), .int .u8 it.policy, .slice co it.cols.length cc, .int .i64 (it.drops : Int), .slice ro it.rules.length rc] 119) := ⟨_, rfl⟩
  have hb1 : Below w.heap.size w w1 := by rw [hw1]; exact (Below.refl _ w).alloc (Nat.le_refl _) _
  have hN1 : w1.heap[w.heap.size]? = some (.cells #[.string it.name, .bool it.isT, .int .i64 (it.marks : Int), .int .u8 it.policy, .slice co it.cols.length cc, .int .i64 (it.drops : Int), .slice ro it.rules.length rc] 119) := by rw [hw1]; exact alloc_last w _
  obtain ⟨⟨c0, c1, c2, c3, c4, c5, c6⟩, -⟩ := cells7 hN1
  have hs1 := lt_of_block hN1
  have HB1 := hide hb1
  have HN1 := hide hN1
  clear hb1 hN1
  have hle : ((v.length : Int) == it.cols.length) = false := by rw [beq_eq_false_iff_ne]; omega
  obtain ⟨wf, hwf⟩ : ∃ wf, wantFn many = wf := ⟨_, rfl⟩
  rw [hwf] at HREC ⊢
  clear hwf
  go_enter Tryz.func105, Tryz.ntmps105
  go_wp2_with fail
  rw [← hw1]
  clear hw1
  refine (uh HCHO _ (by first | exact uh HB1 | exact (uh HB1).drew)).mono ?_
  rintro e w2 ⟨lv, rfl, hb2, hs2⟩
  obtain ⟨lo, lc, rfl⟩ := hs2.form
  have HB2 := hide hb2
  have HL2 := hide hs2
  have HB02 := hide (below_after (uh HB1) hb2)
  clear hb2 hs2 c0 c1 c2 c3 c4 c5 c6 HCHO
  go_wp2_with fail
  go_loopg [28] L.length (fun g iv wr => ∃ j : Nat, j ≤ L.length ∧ g = L.length - j ∧ iv = .int .i64 (j : Int) ∧ (L.take j).findSome? f = none ∧ Below w2.heap.size w2 wr)
  case atStart => exact ⟨0, by omega, rfl, rfl, by simp, Below.refl _ _⟩
  case round =>
   obtain ⟨j, hj, hg, rfl, hno, hb⟩ := hrel
   have A : Aside (gk = L.length - j ∧ (L.take j).findSome? f = none ∧ Below w2.heap.size w2 wr) := ⟨hg, hno, hb⟩
   clear hg hno
   have hb0 := below_after (uh HB02) hb
   by_cases hlt : j < L.length
   ·obtain ⟨gl, rfl, k0, hgl⟩ := ((uh HL2).below hb).at1 hlt
    rw [show (ints L)[j]? = some (.int .i64 L[j]) by simp [ints, hlt]] at k0
    have hjc : (j : Int) < L.length := by omega
    have HNO := hide (fun (hx : f L[j] = none) => lfind_none hlt A.out.2.1 hx)
    have HHIT := hide (fun r (hx : f L[j] = some r) => (uh HLF).trans (lfind_hit hlt A.out.2.1 hx))
    have HFJ := hide (uh HFE L[j])
    generalize L[j] = y at *
    have hNr := ((below_after (uh HB2) hb).block _ hs1).trans (uh HN1)
    obtain ⟨⟨c0, c1, c2, c3, c4, c5, c6⟩, -⟩ := cells7 hNr
    have hsr := lt_of_block hNr
    have HBR := hide hb0
    have HNR := hide hNr
    clear hb hb0 hNr
    obtain ⟨w3, hw3⟩ : ∃ w3, w3 = (wr.alloc (.cells #[.int .i64 y] 3)).alloc (.cells #[.slice fo v.length fc, .slice (some ⟨wr.heap.size, 0, none⟩) 1 1] 25) := ⟨_, rfl⟩
    have hb3 : Below wr.heap.size wr w3 := by rw [hw3]; exact ((Below.refl _ wr).alloc (Nat.le_refl _) _).alloc (by simp) _
    have hNg : w3.heap[wr.heap.size + 1]? = some (.cells #[.slice fo v.length fc, .slice (some ⟨wr.heap.size, 0, none⟩) 1 1] 25) := by
     rw [hw3]
     have := alloc_last (wr.alloc (.cells #[.int .i64 y] 3)) (.cells #[.slice fo v.length fc, .slice (some ⟨wr.heap.size, 0, none⟩) 1 1] 25)
     simpa using this
    have hNb : w3.heap[wr.heap.size]? = some (.cells #[.int .i64 y] 3) := by
     rw [hw3]
     exact (((Below.refl _ (wr.alloc (.cells #[.int .i64 y] 3))).alloc (Nat.le_refl _) _).block wr.heap.size (by simp)).trans (alloc_last wr _)
    have HCC := hide (concat_any (wr.heap.size + 1) wr.heap.size fo v fc y w3 (box2 hNg).1.1 (box2 hNg).1.2 (lt_of_block hNg) ((uh HF).below (below_after (uh HBR) hb3)) (by simp [World.cell?, hNb]) (lt_of_block hNb) (by omega))
    have HB3 := hide (below_after (uh HBR) hb3)
    have HN3 := hide ((hb3.block _ hsr).trans (uh HNR))
    have HB23 := hide (below_after A.out.2.2 hb3)
    clear hb3 hNg hNb
    go_wp2_with fail
    rw [← hw3]
    clear hw3 c0 c1 c2 c3 c4 c5 c6 k0
    refine (uh HCC).mono ?_
    rintro e w4 ⟨lv, rfl, hb4, ho4⟩
    obtain ⟨gq, cq, rfl, hgq⟩ := owns_addr ho4 (by omega)
    have hNr := (hb4.block _ (lt_of_block (uh HN3))).trans (uh HN3)
    obtain ⟨⟨c0, c1, c2, c3, c4, c5, c6⟩, -⟩ := cells7 hNr
    have hs4 := lt_of_block hNr
    have HB4 := hide (below_after (uh HB3) hb4)
    have HB24 := hide (below_after (uh HB23) hb4)
    have HO4 := hide (owns_base ho4 (base' := w.heap.size) (uh HB3).size)
    have HSL : Hid (SlAt w4 1 (.slice (some ⟨gq, 0, none⟩) (v.length + 1) cq) (v ++ [y]).length (ints (v ++ [y]))) := hide (by
     rw [List.length_append]
     exact SlAt.of_owns ho4)
    clear hb4 ho4 hNr HCC
    go_wp2_with fail
    refine (uh HREC y _ w4 (uh HB4) (uh HSL)).mono ?_
    have hne : ∀ (w : World) (a : Option Addr) (n c : Nat), (binOp .neq 25 (.slice a n c) (.slice none 0 0)).run Tryz.prog w = .ok (.bool (!a.isNone)) w := fun w a n c => run_neq_slice_nil_any w _ _ a n c 0 0 Tryz.underlying25
    rintro e w5 (⟨hn, rfl, hb5⟩ | ⟨r, sl, hr, rfl, hb5, how⟩)
    ·have HNX := hide (uh HNO ((uh HFJ).trans hn))
     have HB25 := hide (below_after (uh HB24) hb5)
     clear hn hb5 c0 c1 c2 c3 c4 c5 c6
     go_wp2_with fail
     go_roundg (L.length - (j + 1))
     case measure => have := A.out.1; omega
     case rel => exact ⟨j + 1, by omega, rfl, by go_num, uh HNX, uh HB25⟩
    ·have HHX := hide (uh HHIT r ((uh HFJ).trans hr))
     have HB05 := hide (below_after (uh HB4) hb5)
     have hrp := uh HLEN y r hr
     have how2 : w5.ownsRow w.heap.size 3 1 sl r.length (ints r) := by
      rcases how with ⟨hd, hsl⟩ | ⟨_, ho⟩
      ·subst hd
       have hre : r = v ++ [y] := by
        have h1 : (if wantP it.rules many (v ++ [y]) then some (v ++ [y]) else none) = some r := hr
        split at h1
        ·simpa using h1.symm
        ·cases h1
       rw [hre, hsl, List.length_append]
       exact owns_below (uh HO4) hb5
      ·exact owns_base ho (uh HB4).size
     obtain ⟨gz, cz, rfl, hgz⟩ := owns_addr how2 hrp
     have HO5 := hide how2
     clear hr hb5 how how2 hrp c0 c1 c2 c3 c4 c5 c6
     go_wp2_with fail
     go_ret
     exact Or.inr ⟨r, _, uh HHX, rfl, uh HB05, Or.inr ⟨by omega, uh HO5⟩⟩
   ·have hje : j = L.length := by omega
    have hjc : ¬ (j : Int) < L.length := by omega
    have HNN : Hid (leastP it.cols it.rules many (d + 1) v = none) := hide (by
     rw [uh HLF]
     have := A.out.2.1
     rw [hje, List.take_length] at this
     exact this)
    have HBR := hide hb0
    clear hje hb hb0
    go_wp2_with fail
    go_ret
    exact Or.inl ⟨uh HNN, rfl, uh HBR⟩
end Go.Proofs.YthnggjaecngbiaaGreatDoor
namespace Go.Proofs.YthnggjaecngbiaaGreatDoor
open Go.RowKit
def colTab (its : List PItem) (c : ByteArray) : Bool := (its.getD (placeP its c).toNat noItem).isT
def aloneP (its : List PItem) (it : PItem) : Bool := it.isT && !(it.cols.any (colTab its))
set_option maxRecDepth 100000 in
set_option maxHeartbeats 1600000 in
theorem alone1_any (c : ByteArray) (B : Nat) (v : Value) (xs : List LItem) (w : World) (hB : w.cell? ⟨B, 0, none⟩ = some v) (hBl : B < w.heap.size) (hit : ItemsV w v xs) (hl : xs.length ≤ 12) (hp : ∃ i : Nat, placeP (xs.map LItem.it) c = (i : Int) ∧ i < xs.length) :
  Calls Tryz.prog 104 #[.string c, .pointer (some ⟨B, 0, none⟩)] w fun e w' => e = .returned (.bool (colTab (xs.map LItem.it) c)) ∧ Below w.heap.size w w' := by
 obtain ⟨i, hpi, hi⟩ := hp
 obtain ⟨ao, cap, rfl⟩ := hit.1.form
 have HI := hide hit
 have HC : Hid (colTab (xs.map LItem.it) c = xs[i].it.isT) := hide (by
  unfold colTab
  rw [hpi, Int.toNat_natCast, getD_at _ _ (by simpa using hi)]
  simp)
 have HP := hide hpi
 have hic : (i : Int) < xs.length := by omega
 rcases hit.1 with ⟨h0, _⟩ | ⟨g, cap', hv, hc, hm, hgl, hx⟩
 ·omega
 simp only [Value.slice.injEq] at hv
 obtain ⟨rfl, _, rfl⟩ := hv
 have key : w.cell? ⟨g, i * 7 + 1, none⟩ = some (.bool xs[i].it.isT) := by
  rw [hx _ (by omega)]
  have := flat_at itCells 7 (fun _ => rfl) xs i 1 hi (by omega)
  rw [this]
  rfl
 generalize xs[i].it.isT = tb at *
 have HCE : Hid (∀ w', Below w.heap.size w w' → w'.cell? ⟨B, 0, none⟩ = some (.slice (some ⟨g, 0, none⟩) xs.length cap) ∧ w'.cell? ⟨g, i * 7 + 1, none⟩ = some (.bool tb)) := hide (fun w' hb' => ⟨(hb'.cell (p := ⟨B, 0, none⟩) hBl).trans hB, (hb'.cell (p := ⟨g, i * 7 + 1, none⟩) hgl).trans key⟩)
 clear hit hpi hx hc hm
 go_enter Tryz.func104, Tryz.ntmps104
 go_wp2_with fail
 go_region_held3 (fun w' => w'.cell? ⟨B, 0, none⟩ = some (.slice (some ⟨g, 0, none⟩) xs.length cap) ∧ w'.cell? ⟨g, i * 7 + 1, none⟩ = some (.bool tb)) (go_keep) (first | (go_at_call 46; refine (place_any _ xs c _ ((uh HI).below (by exact (Below.refl _ _).drew)) (by omega)).mono ?_; rintro e w1 ⟨rfl, hb1⟩; rw [uh HP]; have HB1 := hide (below_of_drew hb1); obtain ⟨z0, z1⟩ := uh HCE _ (below_of_drew hb1); clear hb1))
 go_wp2_with fail
 go_ret
 rw [uh HC]
 exact ⟨rfl, uh HB1⟩
set_option maxRecDepth 100000 in
set_option maxHeartbeats 1600000 in
theorem indexAlone_any (cv : Value) (cols : List ByteArray) (B : Nat) (v : Value) (xs : List LItem) (w : World) (hcv : SlAt w 1 cv cols.length (cols.map Value.string)) (hB : w.cell? ⟨B, 0, none⟩ = some v) (hBl : B < w.heap.size) (hit : ItemsV w v xs) (hl : xs.length ≤ 12) (hc3 : cols.length ≤ 3) (hp : ∀ c ∈ cols, ∃ i : Nat, placeP (xs.map LItem.it) c = (i : Int) ∧ i < xs.length) :
  Calls Tryz.prog 133 #[cv, .func (.func 104) #[] #[.pointer (some ⟨B, 0, none⟩)]] w fun e w' => (∃ n : Int, e = .returned (.int .i64 n) ∧ cols.any (colTab (xs.map LItem.it)) = decide (0 ≤ n)) ∧ Below w.heap.size w w' := by
 obtain ⟨ao, cap, rfl⟩ := hcv.form
 have HV := hide hcv
 have HI := hide hit
 have HP := hide hp
 have HBC := hide hB
 clear hcv hit hp hB
 go_enter Tryz.func133, Tryz.ntmps133
 go_wp2_with fail
 go_loopg [8] cols.length (fun g i wr => ∃ j : Nat, j ≤ cols.length ∧ g = cols.length - j ∧ i = .int .i64 (j : Int) ∧ (cols.take j).any (colTab (xs.map LItem.it)) = false ∧ Below w.heap.size w wr)
 case atStart => exact ⟨0, by omega, rfl, rfl, by simp, Below.refl _ _⟩
 case round =>
  obtain ⟨j, hj, hg, rfl, hno, hb⟩ := hrel
  have A : Aside (gk = cols.length - j ∧ (cols.take j).any (colTab (xs.map LItem.it)) = false ∧ Below w.heap.size w wr) := ⟨hg, hno, hb⟩
  clear hg hno
  by_cases hlt : j < cols.length
  ·obtain ⟨g, rfl, k0, hgl⟩ := ((uh HV).below hb).at1 hlt
   rw [show (cols.map Value.string)[j]? = some (.string cols[j]) by simp [hlt]] at k0
   have HT := hide (any_take_succ (colTab (xs.map LItem.it)) cols j hlt)
   have hjc : (j : Int) < cols.length := by omega
   have HPJ := hide (uh HP cols[j] (List.getElem_mem hlt))
   generalize cols[j] = x at *
   have HBR := hide hb
   clear hb
   cases hp : colTab (xs.map LItem.it) x with
   | true =>
    have HP := hide hp
    clear hp
    go_wp2_with (go_at_call 104; refine (alone1_any x B v xs _ (((uh HBR).cell (p := ⟨B, 0, none⟩) hBl).trans (uh HBC)) (Nat.lt_of_lt_of_le hBl (uh HBR).size) ((uh HI).below (uh HBR)) hl (uh HPJ)).mono ?_; rintro e w1 ⟨rfl, hb1⟩; rw [uh HP]; have HB1 := hide (below_after (uh HBR) hb1); clear hb1)
    go_ret
    refine ⟨⟨_, rfl, ?_⟩, uh HB1⟩
    rw [any_of_take (j := j + 1) (by rw [uh HT, A.out.2.1, Bool.false_or]; exact uh HP)]
    simp
   | false =>
    have HP := hide hp
    clear hp
    go_wp2_with (go_at_call 104; refine (alone1_any x B v xs _ (((uh HBR).cell (p := ⟨B, 0, none⟩) hBl).trans (uh HBC)) (Nat.lt_of_lt_of_le hBl (uh HBR).size) ((uh HI).below (uh HBR)) hl (uh HPJ)).mono ?_; rintro e w1 ⟨rfl, hb1⟩; rw [uh HP]; have HB1 := hide (below_after (uh HBR) hb1); clear hb1)
    go_roundg (cols.length - (j + 1))
    case measure => have := A.out.1; omega
    case rel => exact ⟨j + 1, by omega, rfl, by go_num, by rw [uh HT, A.out.2.1, Bool.false_or]; exact uh HP, uh HB1⟩
  ·have hje : j = cols.length := by omega
   have HJ := hide hje
   have hjc : ¬ (j : Int) < cols.length := by omega
   clear hje hb
   go_wp2
   go_ret
   refine ⟨⟨_, rfl, ?_⟩, A.out.2.2⟩
   have := A.out.2.1
   rw [uh HJ, List.take_length] at this
   rw [this]
   rfl
set_option maxHeartbeats 400000 in
theorem containsAlone_any (cv : Value) (cols : List ByteArray) (B : Nat) (v : Value) (xs : List LItem) (w : World) (hcv : SlAt w 1 cv cols.length (cols.map Value.string)) (hB : w.cell? ⟨B, 0, none⟩ = some v) (hBl : B < w.heap.size) (hit : ItemsV w v xs) (hl : xs.length ≤ 12) (hc3 : cols.length ≤ 3) (hp : ∀ c ∈ cols, ∃ i : Nat, placeP (xs.map LItem.it) c = (i : Int) ∧ i < xs.length) :
  Calls Tryz.prog 103 #[cv, .func (.func 104) #[] #[.pointer (some ⟨B, 0, none⟩)]] w fun e w' => e = .returned (.bool (cols.any (colTab (xs.map LItem.it)))) ∧ Below w.heap.size w w' := by
 have H := hide (indexAlone_any cv cols B v xs w hcv hB hBl hit hl hc3 hp)
 clear hcv hB hit hp
 go_enter Tryz.func103, Tryz.ntmps103
 go_wp2_with fail
 refine (uh H).mono ?_
 rintro e w1 ⟨⟨n, rfl, hn⟩, hb⟩
 have HB := hide hb
 have HN := hide hn
 clear hb hn
 go_wp2
 go_ret
 exact ⟨ret_bool (uh HN).symm, uh HB⟩
set_option maxRecDepth 100000 in
set_option maxHeartbeats 1600000 in
theorem readsAlone_any (v : Value) (xs : List LItem) (i : Nat) (w : World) (hit : ItemsV w v xs) (hi : i < xs.length) (ok : OkPlan (xs.map LItem.it)) :
  Calls Tryz.prog 74 #[v, .int .i64 (i : Int)] w fun e w' => e = .returned (.bool (aloneP (xs.map LItem.it) xs[i].it)) ∧ Below w.heap.size w w' := by
 have hmf : ∀ (fn : Fn) (first cap : Array Value) (w : World), (Instr.makeFunc fn first cap).run Tryz.prog w = .ok (.func fn first cap) w := fun _ _ _ _ => rfl
 have hlen : xs.length ≤ 12 := by have := ok.len; simpa using this
 obtain ⟨ao, cap, rfl⟩ := hit.1.form
 have hlm : i < (xs.map LItem.it).length := by simpa using hi
 have hxm : (xs.map LItem.it)[i] = xs[i].it := by simp
 have hc3 := ok.clen xs[i].it (by rw [← hxm]; exact List.getElem_mem hlm)
 have hah : ∀ c ∈ xs[i].it.cols, ∃ j : Nat, placeP (xs.map LItem.it) c = (j : Int) ∧ j < xs.length := fun c hc => by
  obtain ⟨j, h1, h2⟩ := ok.ahead i hlm c (by rw [hxm]; exact hc)
  exact ⟨j, h1, by omega⟩
 have hx := hit.2 xs[i] (List.getElem_mem hi)
 obtain ⟨co, cc, hcv⟩ := hx.1.form
 obtain ⟨ro, rc, hrv⟩ := hx.2.2.1.form
 rcases hit.1 with ⟨h0, _⟩ | ⟨g, cap', hv, hc, hm, hgl, hcell⟩
 ·omega
 simp only [Value.slice.injEq] at hv
 obtain ⟨rfl, _, rfl⟩ := hv
 have key : ∀ q, q < 7 → w.cell? ⟨g, i * 7 + q, none⟩ = (itCells xs[i])[q]? := fun q hq => by
  rw [hcell _ (by omega)]
  exact flat_at itCells 7 (fun _ => rfl) xs i q hi hq
 have key0 := hide key
 have HI := hide hit
 have HX := hide hx
 have HCV := hide hcv
 have HAH := hide hah
 have HAL : Hid (aloneP (xs.map LItem.it) xs[i].it = (xs[i].it.isT && !(xs[i].it.cols.any (colTab (xs.map LItem.it))))) := hide rfl
 have k0 := key 0 (by omega)
 have k1 := key 1 (by omega)
 have k2 := key 2 (by omega)
 have k3 := key 3 (by omega)
 have k4 := key 4 (by omega)
 have k5 := key 5 (by omega)
 have k6 := key 6 (by omega)
 simp only [itCells, icells, List.getElem?_cons_zero, List.getElem?_cons_succ, Nat.add_zero] at k0 k1 k2 k3 k4 k5 k6
 have HCA : Hid (∀ (w' : World) (B : Nat), Below w.heap.size w w' → w'.cell? ⟨B, 0, none⟩ = some (.slice (some ⟨g, 0, none⟩) xs.length cap) → B < w'.heap.size → Calls Tryz.prog 103 #[.slice co xs[i].it.cols.length cc, .func (.func 104) #[] #[.pointer (some ⟨B, 0, none⟩)]] w' fun e w'' => e = .returned (.bool (xs[i].it.cols.any (colTab (xs.map LItem.it)))) ∧ Below w'.heap.size w' w'') := hide (fun w' B hb' hB hBl => by
  rw [← hcv]
  exact containsAlone_any xs[i].cv xs[i].it.cols B _ xs w' (hx.1.below hb') hB hBl (hit.below hb') hlen hc3 hah)
 have hic : (i : Int) < xs.length := by omega
 rw [hcv] at k4
 rw [hrv] at k6
 clear hit hx key hah hcell hc hm ok hlm hxm hc3 hcv hrv HCV HX HAH key0 HI
 obtain ⟨an, han⟩ : ∃ an, xs[i].it.cols.any (colTab (xs.map LItem.it)) = an := ⟨_, rfl⟩
 obtain ⟨al, hal⟩ : ∃ al, aloneP (xs.map LItem.it) xs[i].it = al := ⟨_, rfl⟩
 rw [han] at HCA HAL
 rw [hal] at HAL ⊢
 clear han hal
 generalize xs[i].it.cols.length = cn at *
 generalize xs[i].it.rules.length = rn at *
 generalize xs[i].it.name = nm at *
 generalize xs[i].it.policy = po at *
 generalize xs[i].it.marks = mk at *
 generalize xs[i].it.drops = dr at *
 generalize xs[i].it.isT = tb at *
 obtain ⟨w1, hw1⟩ : ∃ w1, w1 = (w.alloc (.cells #[.slice (some ⟨g, 0, none⟩) xs.length cap] 85)).alloc (.cells #[.string nm, .bool tb, .int .i64 (mk : Int), .int .u8 po, .slice co cn cc, .int .i64 (dr : Int), .slice ro rn rc] 119) := ⟨_, rfl⟩
 have hb1 : Below w.heap.size w w1 := by rw [hw1]; exact ((Below.refl _ w).alloc (Nat.le_refl _) _).alloc (by simp) _
 have hB1 : w1.heap[w.heap.size]? = some (.cells #[.slice (some ⟨g, 0, none⟩) xs.length cap] 85) := by
  rw [hw1]
  exact (((Below.refl _ (w.alloc (.cells #[.slice (some ⟨g, 0, none⟩) xs.length cap] 85))).alloc (Nat.le_refl _) _).block w.heap.size (by simp)).trans (alloc_last w _)
 have HCB := hide (uh HCA w1 w.heap.size hb1 (by simp [World.cell?, hB1]) (lt_of_block hB1))
 have HB1 := hide hb1
 clear hb1 hB1 HCA
 cases tb with
 | false =>
  go_enter Tryz.func74, Tryz.ntmps74
  go_wp2_with fail
  go_ret
  refine ⟨by rw [uh HAL]; rfl, ?_⟩
  rw [← hw1]
  exact uh HB1
 | true =>
  go_enter Tryz.func74, Tryz.ntmps74
  go_wp2_with fail
  rw [← hw1]
  clear hw1
  refine (uh HCB).mono ?_
  rintro e w2 ⟨rfl, hb2⟩
  have HB2 := hide (below_after (uh HB1) hb2)
  clear hb2
  go_wp2_with fail
  go_ret
  exact ⟨by rw [uh HAL]; rfl, uh HB2⟩
end Go.Proofs.YthnggjaecngbiaaGreatDoor
