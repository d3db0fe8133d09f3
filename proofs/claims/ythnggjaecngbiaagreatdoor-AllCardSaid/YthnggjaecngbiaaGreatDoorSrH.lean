import Derived.Test.YthnggjaecngbiaaGreatDoorSrF
import Derived.Test.YthnggjaecngbiaaGreatDoorRgI
import Derived.Test.YthnggjaecngbiaaGreatDoorRgB
import Derived.Test.YthnggjaecngbiaaGreatDoorSrA
import Derived.Test.YthnggjaecngbiaaGreatDoorSkA
namespace Go.Proofs.YthnggjaecngbiaaGreatDoor
open Go.RowKit
def leastAns (its : List PItem) (nm : ByteArray) (many : Bool) : Option (List Int) × Int :=
 if namedP its nm then (if aloneP its (its.getD (placeP its nm).toNat noItem) then (leastP (its.getD (placeP its nm).toNat noItem).cols (its.getD (placeP its nm).toNat noItem).rules many (its.getD (placeP its nm).toNat noItem).cols.length [], 0) else (none, 6)) else (none, 4)
def LeastAns (its : List PItem) (nm : ByteArray) (many : Bool) (w : World) (e : Ending) (w' : World) : Prop :=
 ∃ so sc, e = .returned (.tuple #[.slice so ((leastAns its nm many).1.getD []).length sc, .bool (leastAns its nm many).1.isSome, .int .i64 (leastAns its nm many).2]) ∧ Below w.heap.size w w' ∧ w'.ownsRow w.heap.size 3 1 (.slice so ((leastAns its nm many).1.getD []).length sc) ((leastAns its nm many).1.getD []).length (ints ((leastAns its nm many).1.getD []))
set_option maxRecDepth 100000 in
set_option maxHeartbeats 1600000 in
theorem leastL_any (x : LItem) (many : Bool) (w : World) (hx : ItemV w x) (hr8 : x.it.rules.length ≤ 8) (hc3 : x.it.cols.length ≤ 3) (hwd : ∀ r ∈ x.it.rules, r.tests.length = x.it.cols.length ∧ ∀ t ∈ r.tests, WfT t) :
  Calls Tryz.prog 75 #[iv x.it x.cv x.rv, .func (.func (wantFn many)) #[] #[]] w (LeastOf x.it.cols x.it.rules many x.it.cols.length [] (.slice none 0 0) w) := by
 have HLB := hide (fun w' (h : Below w.heap.size w w') => least_any x many hr8 hc3 hwd x.it.cols.length [] (.slice none 0 0) w' (hx.below h) (Or.inl ⟨rfl, _, _, rfl⟩) (by simp))
 obtain ⟨it, cv, rv0, zv⟩ := x
 obtain ⟨co, cc, hcv⟩ := hx.1.form
 obtain ⟨ro, rc, hrv⟩ := hx.2.2.1.form
 simp only at hcv hrv
 subst hcv hrv
 simp only at hr8 hc3 HLB ⊢
 simp only [iv, icells] at HLB ⊢
 obtain ⟨wf, hwf⟩ : ∃ wf, wantFn many = wf := ⟨_, rfl⟩
 rw [hwf] at HLB ⊢
 obtain ⟨w1, hw1⟩ : ∃ w1, w1 = w.alloc (.cells #[.string it.name, .bool it.isT, .int .i64 (it.marks : Int), .int .u8 it.policy, .slice co it.cols.length cc, .int .i64 (it.drops : Int), .slice ro it.rules.length rc] 119) := ⟨_, rfl⟩
 have HB1 : Hid (Below w.heap.size w w1) := hide (by rw [hw1]; exact (Below.refl _ w).alloc (Nat.le_refl _) _)
 clear hx hwd hwf
 go_enter Tryz.func75, Tryz.ntmps75
 go_wp2_with fail
 rw [← hw1]
 clear hw1
 refine (uh HLB _ (by first | exact uh HB1 | exact (uh HB1).drew)).mono ?_
 rintro e w2 (⟨hn, rfl, hb2⟩ | ⟨r, sl, hr, rfl, hb2, how⟩)
 ·have HB2 := hide (below_after (uh HB1) hb2)
  have HN := hide hn
  clear hn hb2
  go_wp2_with fail
  go_ret
  exact Or.inl ⟨uh HN, rfl, uh HB2⟩
 ·have HB2 := hide (below_after (uh HB1) hb2)
  have HR := hide hr
  have how2 : (it.cols.length = 0 ∧ sl = .slice none 0 0) ∨ (0 < it.cols.length ∧ w2.ownsRow w.heap.size 3 1 sl r.length (ints r)) := by
   rcases how with h | ⟨h, ho⟩
   ·exact Or.inl h
   ·exact Or.inr ⟨h, owns_base ho (uh HB1).size⟩
  have hform : ∃ o n c, sl = .slice o n c := by
   rcases how2 with ⟨_, h⟩ | ⟨_, h⟩
   ·exact ⟨_, _, _, h⟩
   ·obtain ⟨o, c, h'⟩ := (SlAt.of_owns h).form
    exact ⟨_, _, _, h'⟩
  obtain ⟨so, sn, sc, rfl⟩ := hform
  have HOW := hide how2
  clear hr hb2 how how2
  go_wp2_with fail
  go_ret
  exact Or.inr ⟨r, _, uh HR, rfl, uh HB2, uh HOW⟩
set_option maxRecDepth 100000 in
set_option maxHeartbeats 3200000 in
theorem pseek_any (g : Nat) (its : List PItem) (nm : ByteArray) (many : Bool) (w : World) (h : PlanAt w g its) :
  Calls Tryz.prog 50 #[.pointer (some ⟨g, 0, none⟩), .string nm, .func (.func (wantFn many)) #[] #[]] w (LeastAns its nm many w) := by
 obtain ⟨v, xs, hN, hit, hxs, hwf, hok⟩ := h
 obtain ⟨ao, cap, rfl⟩ := hit.1.form
 have hlen : xs.length ≤ 12 := by have := hok.len; rw [← hxs] at this; simpa using this
 have HN := hide hN
 have HI := hide hit
 have HX := hide hxs
 have HK := hide hok
 have HW := hide hwf
 clear hN hit hxs hok hwf
 cases hn : namedP its nm with
 | false =>
  have HP := hide (placeP_out hn)
  have HL : Hid (leastAns its nm many = (none, 4)) := hide (by unfold leastAns; rw [if_neg (by rw [hn]; simp)])
  generalize wantFn many = wf at *
  clear hn
  go_enter Tryz.func50, Tryz.ntmps50
  go_wp2_with fail
  refine (all_any g _ _ (uh HN) ⟨_, _, _, rfl⟩).mono ?_
  rintro e w1 ⟨rfl, rfl⟩
  go_wp2_with fail
  refine (place_any _ xs nm _ (uh HI) (by omega)).mono ?_
  rintro e w2 ⟨rfl, hb2⟩
  rw [uh HX, uh HP]
  have HB2 := hide hb2
  clear hb2
  go_wp2_with fail
  go_ret3
  refine ⟨none, 0, by rw [uh HL]; rfl, uh HB2, by rw [uh HL]; exact World.ownsRow_nil _ _ _ _⟩
 | true =>
  obtain ⟨i, hp, hi⟩ := placeP_in hn
  have hix : i < xs.length := by rw [← uh HX] at hi; simpa using hi
  have hxe : its[i] = xs[i].it := by simp [← uh HX]
  have hgd : its.getD (placeP its nm).toNat noItem = xs[i].it := by rw [hp, Int.toNat_natCast, getD_at _ _ hi, hxe]
  have HL : Hid (leastAns its nm many = if aloneP its xs[i].it then (leastP xs[i].it.cols xs[i].it.rules many xs[i].it.cols.length [], 0) else (none, 6)) := hide (by unfold leastAns; rw [if_pos hn, hgd])
  have HP := hide hp
  have hmem : its[i] ∈ its := List.getElem_mem hi
  have hcl := (uh HK).clen its[i] hmem
  have hrl := (uh HK).rlen its[i] hmem
  have hwd := (uh HK).width its[i] hmem
  have hcan := (uh HK).can its[i] hmem
  rw [hxe] at hcl hrl hwd hcan
  have hpos : aloneP its xs[i].it = true → 0 < xs[i].it.cols.length := fun ha => by
   rcases hcan with hc | hc
   ·have := hc.isT
    unfold aloneP at ha
    rw [this] at ha
    cases ha
   ·exact List.length_pos_iff.2 hc.ne
  have hwi := uh HW xs[i] (List.getElem_mem hix)
  have HLS := hide (fun w' (hb' : Below w.heap.size w w') => leastL_any xs[i] many w' (((uh HI).2 xs[i] (List.getElem_mem hix)).below hb') hrl hcl (fun r hr => ⟨hwd r hr, (hwi.rules r hr).tests⟩))
  have HRA := hide (fun w' (hb' : Below w.heap.size w w') => readsAlone_any (.slice ao xs.length cap) xs i w' ((uh HI).below hb') hix (by rw [uh HX]; exact uh HK))
  rw [uh HX] at HRA
  have hx := (uh HI).2 xs[i] (List.getElem_mem hix)
  obtain ⟨co, cc, hcv⟩ := hx.1.form
  obtain ⟨ro, rc, hrv⟩ := hx.2.2.1.form
  have hcells : ∀ w', Below w.heap.size w w' → ∃ gi, ao = some ⟨gi, 0, none⟩ ∧ gi < w'.heap.size ∧ w'.cell? ⟨gi, i * 7, none⟩ = some (.string xs[i].it.name) ∧ w'.cell? ⟨gi, i * 7 + 1, none⟩ = some (.bool xs[i].it.isT) ∧ w'.cell? ⟨gi, i * 7 + 2, none⟩ = some (.int .i64 (xs[i].it.marks : Int)) ∧ w'.cell? ⟨gi, i * 7 + 3, none⟩ = some (.int .u8 xs[i].it.policy) ∧ w'.cell? ⟨gi, i * 7 + 4, none⟩ = some (.slice co xs[i].it.cols.length cc) ∧ w'.cell? ⟨gi, i * 7 + 5, none⟩ = some (.int .i64 (xs[i].it.drops : Int)) ∧ w'.cell? ⟨gi, i * 7 + 6, none⟩ = some (.slice ro xs[i].it.rules.length rc) := fun w' hb' => by
   rcases (uh HI).1.below hb' with ⟨h0, _⟩ | ⟨gi, cap', hv, hc, hm, hgl, hcell⟩
   ·omega
   simp only [Value.slice.injEq] at hv
   obtain ⟨rfl, _, rfl⟩ := hv
   have key : ∀ q, q < 7 → w'.cell? ⟨gi, i * 7 + q, none⟩ = (itCells xs[i])[q]? := fun q hq => by
    rw [hcell _ (by omega)]
    exact flat_at itCells 7 (fun _ => rfl) xs i q hix hq
   have k0 := key 0 (by omega)
   have k4 := key 4 (by omega)
   have k6 := key 6 (by omega)
   simp only [itCells, icells, List.getElem?_cons_zero, List.getElem?_cons_succ, Nat.add_zero] at k0 k4 k6
   rw [hcv] at k4
   rw [hrv] at k6
   exact ⟨gi, rfl, hgl, k0, key 1 (by omega), key 2 (by omega), key 3 (by omega), k4, key 5 (by omega), k6⟩
  have HCE := hide hcells
  simp only [iv, icells] at HLS
  rw [hcv, hrv] at HLS
  have hic : (i : Int) < xs.length := by omega
  have hin : ¬ (i : Int) < 0 := by omega
  have HPO := hide hpos
  clear hn hp hxe hgd hmem hcl hrl hwd hcan hpos hwi hx hcv hrv hcells
  generalize xs[i].it = it at *
  generalize wantFn many = wf at *
  go_enter Tryz.func50, Tryz.ntmps50
  go_wp2_with fail
  refine (all_any g _ _ (uh HN) ⟨_, _, _, rfl⟩).mono ?_
  rintro e w1 ⟨rfl, rfl⟩
  go_wp2_with fail
  refine (place_any _ xs nm _ (uh HI) (by omega)).mono ?_
  rintro e w2 ⟨rfl, hb2⟩
  rw [uh HX, uh HP]
  have HB2 := hide hb2
  have HN2 := hide ((hb2.block _ (lt_of_block (uh HN))).trans (uh HN))
  clear hb2
  go_wp2_with fail
  refine (all_any g _ _ (uh HN2) ⟨_, _, _, rfl⟩).mono ?_
  rintro e w3 ⟨rfl, rfl⟩
  go_wp2_with fail
  refine (uh HRA _ (uh HB2)).mono ?_
  rintro e w4 ⟨rfl, hb4⟩
  have HB4 := hide (below_after (uh HB2) hb4)
  have HN4 := hide ((hb4.block _ (lt_of_block (uh HN2))).trans (uh HN2))
  clear hb4
  cases hA : aloneP its it with
  | false =>
   have HA : Hid (leastAns its nm many = (none, 6)) := hide (by rw [uh HL, hA]; rfl)
   clear hA
   go_wp2_with fail
   go_ret3
   refine ⟨none, 0, by rw [uh HA]; rfl, uh HB4, by rw [uh HA]; exact World.ownsRow_nil _ _ _ _⟩
  | true =>
   have HA : Hid (leastAns its nm many = (leastP it.cols it.rules many it.cols.length [], 0)) := hide (by rw [uh HL, hA]; rfl)
   have hcp := uh HPO hA
   clear hA
   go_wp2_with fail
   refine (all_any g _ _ (uh HN4) ⟨_, _, _, rfl⟩).mono ?_
   rintro e w5 ⟨rfl, rfl⟩
   obtain ⟨gi, rfl, hgi, k0, k1, k2, k3, k4, k5, k6⟩ := uh HCE _ (uh HB4)
   have hne : ∀ (w : World) (a : Option Addr) (n c : Nat), (binOp .neq 25 (.slice a n c) (.slice none 0 0)).run Tryz.prog w = .ok (.bool (!a.isNone)) w := fun w a n c => run_neq_slice_nil_any w _ _ a n c 0 0 Tryz.underlying25
   go_wp2_with fail
   refine (uh HLS _ (uh HB4)).mono ?_
   rintro e w6 (⟨hn6, rfl, hb6⟩ | ⟨r, sl, hr6, rfl, hb6, how⟩)
   ·have HA2 : Hid (leastAns its nm many = (none, 0)) := hide (by rw [uh HA, hn6])
    have HB6 := hide (below_after (uh HB4) hb6)
    clear hn6 hb6 k0 k1 k2 k3 k4 k5 k6
    go_wp2_with fail
    go_ret3
    refine ⟨none, 0, by rw [uh HA2]; rfl, uh HB6, by rw [uh HA2]; exact World.ownsRow_nil _ _ _ _⟩
   ·have HA2 : Hid (leastAns its nm many = (some r, 0)) := hide (by rw [uh HA, hr6])
    have HB6 := hide (below_after (uh HB4) hb6)
    have hrl : 0 < r.length := by
     have := searchC_len _ _ _ _ _ hr6
     omega
    have hown : w6.ownsRow w1.heap.size 3 1 sl r.length (ints r) := by
     rcases how with ⟨h0, _⟩ | ⟨_, ho⟩
     ·omega
     ·exact owns_base ho (uh HB4).size
    obtain ⟨gz, cz, rfl, -⟩ := owns_addr hown hrl
    have HO6 := hide hown
    clear hr6 hb6 hown how hrl k0 k1 k2 k3 k4 k5 k6
    go_wp2_with fail
    go_ret3
    refine ⟨_, _, by rw [uh HA2]; rfl, uh HB6, by rw [uh HA2]; exact uh HO6⟩
set_option maxRecDepth 100000 in
theorem gap_any (g : Nat) (its : List PItem) (nm : ByteArray) (w : World) (h : PlanAt w g its) :
  Calls Tryz.prog 30 #[.pointer (some ⟨g, 0, none⟩), .string nm] w (LeastAns its nm false w) := by
 have hmf : ∀ (fn : Fn) (first cap : Array Value) (w : World), (Instr.makeFunc fn first cap).run Tryz.prog w = .ok (.func fn first cap) w := fun _ _ _ _ => rfl
 have HS := hide (pseek_any g its nm false w h)
 clear h
 simp only [wantFn] at HS
 go_enter Tryz.func30, Tryz.ntmps30
 go_wp2_with fail
 refine (uh HS).mono ?_
 rintro e w1 ⟨so, sc, rfl, hb, ho⟩
 have HB := hide hb
 have HO := hide ho
 clear hb ho
 go_wp2_with fail
 go_ret3
 exact ⟨so, sc, rfl, uh HB, uh HO⟩
set_option maxRecDepth 100000 in
theorem overlap_any (g : Nat) (its : List PItem) (nm : ByteArray) (w : World) (h : PlanAt w g its) :
  Calls Tryz.prog 31 #[.pointer (some ⟨g, 0, none⟩), .string nm] w (LeastAns its nm true w) := by
 have hmf : ∀ (fn : Fn) (first cap : Array Value) (w : World), (Instr.makeFunc fn first cap).run Tryz.prog w = .ok (.func fn first cap) w := fun _ _ _ _ => rfl
 have HS := hide (pseek_any g its nm true w h)
 clear h
 simp only [wantFn] at HS
 go_enter Tryz.func31, Tryz.ntmps31
 go_wp2_with fail
 refine (uh HS).mono ?_
 rintro e w1 ⟨so, sc, rfl, hb, ho⟩
 have HB := hide hb
 have HO := hide ho
 clear hb ho
 go_wp2_with fail
 go_ret3
 exact ⟨so, sc, rfl, uh HB, uh HO⟩
end Go.Proofs.YthnggjaecngbiaaGreatDoor
namespace Go.Proofs.YthnggjaecngbiaaGreatDoor
open Go.RowKit
def atP (l : List Int) (n : Int) : Nat := (l.takeWhile fun x => decide (x < n)).length
def placedP (l : List Int) (n : Int) : List Int := if l[atP l n]? = some n then l else l.take (atP l n) ++ n :: l.drop (atP l n)
theorem atP_eq {n : Int} : ∀ {l : List Int} {j : Nat}, j ≤ l.length → (l.take j).all (fun x => decide (x < n)) = true → (∀ h : j < l.length, ¬ l[j] < n) → atP l n = j
 | [], j, hj, _, _ => by simp at hj; simp [atP, hj]
 | x :: l, 0, _, _, h => by
  have := h (by simp)
  simp only [List.getElem_cons_zero] at this
  simp [atP, List.takeWhile, this]
 | x :: l, j + 1, hj, ha, h => by
  simp only [List.take_succ_cons, List.all_cons, Bool.and_eq_true, decide_eq_true_eq] at ha
  have ih := atP_eq (n := n) (l := l) (j := j) (by simpa using hj) ha.2 (fun hl => by have := h (by simpa using hl); simpa using this)
  unfold atP at ih ⊢
  simp [List.takeWhile, ha.1, ih]
theorem placedP_len (l : List Int) (n : Int) : (placedP l n).length ≤ l.length + 1 := by
 unfold placedP
 split
 ·omega
 ·simp; omega
theorem ints_one (l : List Int) : ∀ u ∈ ints l, u.oneCell' = true := fun u hu => by
 obtain ⟨x, _, rfl⟩ := List.mem_map.1 hu
 rfl
theorem ints_take (l : List Int) (j : Nat) : ints (l.take j) = (ints l).take j := by simp [ints]
theorem all_take_succ {l : List Int} {n : Int} {j : Nat} (h : j < l.length) (ha : (l.take j).all (fun x => decide (x < n)) = true) (hx : l[j] < n) : (l.take (j + 1)).all (fun x => decide (x < n)) = true := by
 rw [List.take_succ_eq_append_getElem h, List.all_append, ha]
 simp [hx]
set_option maxRecDepth 100000 in
set_option maxHeartbeats 1600000 in
theorem placed_any (v : Value) (l : List Int) (n : Int) (w : World) (hv : SlAt w 1 v l.length (ints l)) (hl : l.length ≤ 1000) :
  Calls Tryz.prog 171 #[v, .int .i64 n] w fun e w' => ∃ v', e = .returned v' ∧ Below w.heap.size w w' ∧ SlAt w' 1 v' (placedP l n).length (ints (placedP l n)) := by
 obtain ⟨vo, vc, rfl⟩ := hv.form
 have HV := hide hv
 have hcap : l.length ≤ vc := by
  rcases hv with ⟨h0, _⟩ | ⟨g, c, he, h1, _⟩
  ·omega
  ·simp only [Value.slice.injEq, true_and] at he
   omega
 clear hv
 obtain ⟨i0, hi, hz0, hz1, hz2⟩ := info_parts Tryz.info_int
 go_enter Tryz.func171, Tryz.ntmps171
 go_wp2_with fail
 go_loopg [5] l.length (fun gk iv wr => ∃ j : Nat, j ≤ l.length ∧ gk = l.length - j ∧ iv = .int .i64 (j : Int) ∧ (l.take j).all (fun x => decide (x < n)) = true ∧ Below w.heap.size w wr)
 case atStart => exact ⟨0, by omega, rfl, rfl, by simp, Below.refl _ _⟩
 case round =>
  obtain ⟨j, hj, hg, rfl, hall, hb⟩ := hrel
  have A : Aside (gk = l.length - j ∧ (l.take j).all (fun x => decide (x < n)) = true ∧ Below w.heap.size w wr) := ⟨hg, hall, hb⟩
  clear hg hall
  by_cases hlt : j < l.length
  ·obtain ⟨g, rfl, k0, hgl⟩ := ((uh HV).below hb).at1 hlt
   rw [show (ints l)[j]? = some (.int .i64 l[j]) by simp [ints, hlt]] at k0
   have hjc : (j : Int) < l.length := by omega
   by_cases hx : l[j] < n
   ·have HS := hide (all_take_succ hlt A.out.2.1 hx)
    generalize l[j] = y at *
    clear hb
    go_wp2_with fail
    go_roundg (l.length - (j + 1))
    case measure => have := A.out.1; omega
    case rel => exact ⟨j + 1, by omega, rfl, by go_num, uh HS, A.out.2.2⟩
   ·have hat := atP_eq (n := n) hj A.out.2.1 (fun _ => hx)
    have HBR := hide hb
    by_cases he : l[j] = n
    ·have HP : Hid (placedP l n = l) := hide (by unfold placedP; rw [hat, if_pos (by simp [hlt, he])])
     rw [he] at k0
     clear hat hb hx he
     go_wp2_with fail
     go_ret
     rw [uh HP]
     exact ⟨_, rfl, uh HBR, (uh HV).below (uh HBR)⟩
    ·have HP : Hid (placedP l n = l.take j ++ n :: l.drop j) := hide (by unfold placedP; rw [hat, if_neg (by simp [hlt, he])])
     have heb : (l[j] == n) = false := by simpa using he
     generalize l[j] = y at *
     clear hat hb he
     have HND : Hid (∀ w', Below w.heap.size w w' → ∀ q u, (ints (l.drop j))[q]? = some u → w'.cell? ((⟨g, j, none⟩ : Addr).add q) = some u) := hide (fun w' hb' q u hu => by
      rw [Addr.add_lit]
      unfold ints at hu
      rw [List.getElem?_map, List.getElem?_drop] at hu
      cases hq : l[j + q]? with
      | none => rw [hq] at hu; simp at hu
      | some z =>
       rw [hq] at hu
       simp only [Option.map_some, Option.some.injEq] at hu
       have hjq := (List.getElem?_eq_some_iff.1 hq).1
       obtain ⟨g', hg', k1, _⟩ := ((uh HV).below hb').at1 hjq
       simp only [Option.some.injEq, Addr.mk.injEq, and_true] at hg'
       rw [← hg'] at k1
       rw [k1, ← hu]
       simp [ints, hq])
     have HLD : Hid ((ints (l.drop j)).length = (l.length - j) * 1) := hide (by simp [ints])
     have HOD : Hid (∀ u ∈ ints (l.drop j), u.oneCell' = true) := hide (ints_one _)
     have HDP : Hid (0 < l.length - j) := hide (by omega)
     have HM5 : Hid (j + 1 + (l.length - j) ≤ maxLen) := hide (Nat.le_trans (show j + 1 + (l.length - j) ≤ 1001 by omega) (by decide))
     have HM6 : Hid ((j + 1 + (l.length - j)) * 8 ≤ 140737488355328) := hide (Nat.le_trans (Nat.mul_le_mul_right 8 (show j + 1 + (l.length - j) ≤ 1001 by omega)) (by decide))
     have HM3 : Hid (j + 1 ≤ maxLen) := hide (Nat.le_trans (show j + 1 ≤ 1001 by omega) (by decide))
     have HM4 : Hid ((j + 1) * 8 ≤ 140737488355328) := hide (Nat.le_trans (Nat.mul_le_mul_right 8 (show j + 1 ≤ 1001 by omega)) (by decide))
     have HLT : Hid ((ints (l.take j)).length = j * 1) := hide (by simp [ints]; omega)
     have HOT : Hid (∀ u ∈ ints (l.take j), u.oneCell' = true) := hide (ints_one _)
     have HM1 : Hid (0 + j ≤ maxLen) := hide (Nat.le_trans (show 0 + j ≤ 1001 by omega) (by decide))
     have HM2 : Hid ((0 + j) * 8 ≤ 140737488355328) := hide (Nat.le_trans (Nat.mul_le_mul_right 8 (show 0 + j ≤ 1001 by omega)) (by decide))
     have HNT : Hid (∀ q u, (ints (l.take j))[q]? = some u → wr.cell? ((⟨g, 0, none⟩ : Addr).add q) = some u) := hide (fun q u hu => by
      rw [Addr.add_lit, Nat.zero_add]
      unfold ints at hu
      rw [List.getElem?_map, List.getElem?_take] at hu
      split at hu
      ·rename_i hqj
       have hql : q < l.length := by omega
       obtain ⟨g', hg', k1, _⟩ := ((uh HV).below (uh HBR)).at1 hql
       simp only [Option.some.injEq, Addr.mk.injEq, and_true] at hg'
       rw [← hg'] at k1
       rw [k1, ← hu]
       simp [ints]
      ·simp at hu)
     by_cases hj0 : j = 0
     ·subst hj0
      go_wp2_with (at_builtin; first | (refine wpList_append_nothing (by rfl) _ _ _ (by rfl) 3 i0 Tryz.underlying25 hi (some ⟨g, 0, none⟩) 0 vc rfl (by rfl) (by rfl) ?_) | (refine wpList_append_lies _ (by rfl) _ _ _ (by rfl) w.heap.size 3 i0 _ 1 8 Tryz.underlying25 hi hz0 hz1 hz2 rfl (by decide) (.slice none 0 0) 0 ([] : List Value) (by rfl) ((World.ownsRow_nil wr w.heap.size 3 1).alloc _) ⟨wr.heap.size, 0, none⟩ 1 1 [.int .i64 n] (by rfl) (by rfl) (World.news_of_block (cs := #[.int .i64 n]) (t := 3) (fr := (0, 0)) (heap_alloc_new wr _)) (by simp [Value.oneCell']) (by decide) (uh HM3) (uh HM4) (Nat.le_trans (uh HBR).size ((Below.refl _ wr).alloc (Nat.le_refl _) _).size) (wr.heap.size + 1) (by simp) ?_; intro g6 c6 w6 hown7 hgrow7 hat7 hlt7; have BB6 := hide (below_grown ((uh HBR).alloc (uh HBR).size _) hgrow7 (fun q hq => ((World.ownsRow_nil wr w.heap.size 3 1).lt q hq).1)); have OW6 := hide hown7; clear hown7 hgrow7 hat7 hlt7) | (refine wpList_append_lies _ (by rfl) _ _ _ (by rfl) w.heap.size 3 i0 _ 1 8 Tryz.underlying25 hi hz0 hz1 hz2 rfl (by decide) (.slice (some ⟨g6, 0, none⟩) (0 + 1) c6) (0 + 1) ([] ++ [.int .i64 n]) (by rfl) (uh OW6) ⟨g, 0, none⟩ _ _ (ints (l.drop 0)) (by rfl) (uh HLD) (uh HND w6 (uh BB6)) (uh HOD) (uh HDP) (uh HM5) (uh HM6) (uh BB6).size w6.heap.size rfl ?_; intro g7 c7 w7 hown7 hgrow7 hat7 hlt7; have BB7 := hide (below_grown (uh BB6) hgrow7 (fun q hq => ((uh OW6).lt q hq).1)); have OW7 := hide hown7; clear hown7 hgrow7 hat7 hlt7))
      go_ret
      rw [uh HP]
      refine ⟨_, rfl, uh BB7, ?_⟩
      have := SlAt.of_owns (uh OW7)
      rw [show (l.take 0 ++ n :: l.drop 0).length = 0 + 1 + (l.length - 0) by simp; omega]
      rw [show ints (l.take 0 ++ n :: l.drop 0) = [] ++ [.int .i64 n] ++ ints (l.drop 0) by simp [ints]]
      exact this
     ·have HJP : Hid (0 < j) := hide (by omega)
      go_wp2_with (at_builtin; first | (refine wpList_append_lies _ (by rfl) _ _ _ (by rfl) w.heap.size 3 i0 _ 1 8 Tryz.underlying25 hi hz0 hz1 hz2 rfl (by decide) (.slice none 0 0) 0 [] (by rfl) (World.ownsRow_nil _ _ _ _) ⟨g, 0, none⟩ j vc (ints (l.take j)) (by rfl) (uh HLT) (uh HNT) (uh HOT) (uh HJP) (uh HM1) (uh HM2) (uh HBR).size wr.heap.size rfl ?_; intro g5 c5 w5 hown7 hgrow7 hat7 hlt7; simp only [Nat.zero_add, List.nil_append] at hown7; have BB5 := hide (below_grown (uh HBR) hgrow7 (fun q hq => by simp [Value.ownBlock] at hq)); have OW5 := hide hown7; clear hown7 hgrow7 hat7 hlt7; simp only [Nat.zero_add]) | (refine wpList_append_lies _ (by rfl) _ _ _ (by rfl) w.heap.size 3 i0 _ 1 8 Tryz.underlying25 hi hz0 hz1 hz2 rfl (by decide) (.slice (some ⟨g5, 0, none⟩) j c5) j (ints (l.take j)) (by rfl) ((uh OW5).alloc _) ⟨w5.heap.size, 0, none⟩ 1 1 [.int .i64 n] (by rfl) (by rfl) (World.news_of_block (cs := #[.int .i64 n]) (t := 3) (fr := (0, 0)) (heap_alloc_new w5 _)) (by simp [Value.oneCell']) (by decide) (uh HM3) (uh HM4) (Nat.le_trans (uh BB5).size ((Below.refl _ w5).alloc (Nat.le_refl _) _).size) (w5.heap.size + 1) (by simp) ?_; intro g6 c6 w6 hown7 hgrow7 hat7 hlt7; have BB6 := hide (below_grown ((uh BB5).alloc (uh BB5).size _) hgrow7 (fun q hq => ((uh OW5).lt q hq).1)); have OW6 := hide hown7; clear hown7 hgrow7 hat7 hlt7) | (refine wpList_append_lies _ (by rfl) _ _ _ (by rfl) w.heap.size 3 i0 _ 1 8 Tryz.underlying25 hi hz0 hz1 hz2 rfl (by decide) (.slice (some ⟨g6, 0, none⟩) (j + 1) c6) (j + 1) (ints (l.take j) ++ [.int .i64 n]) (by rfl) (uh OW6) ⟨g, j, none⟩ _ _ (ints (l.drop j)) (by rfl) (uh HLD) (uh HND w6 (uh BB6)) (uh HOD) (uh HDP) (uh HM5) (uh HM6) (uh BB6).size w6.heap.size rfl ?_; intro g7 c7 w7 hown7 hgrow7 hat7 hlt7; have BB7 := hide (below_grown (uh BB6) hgrow7 (fun q hq => ((uh OW6).lt q hq).1)); have OW7 := hide hown7; clear hown7 hgrow7 hat7 hlt7))
      go_ret
      rw [uh HP]
      refine ⟨_, rfl, uh BB7, ?_⟩
      have := SlAt.of_owns (uh OW7)
      rw [show (l.take j ++ n :: l.drop j).length = j + 1 + (l.length - j) by simp; omega]
      rw [show ints (l.take j ++ n :: l.drop j) = ints (l.take j) ++ [.int .i64 n] ++ ints (l.drop j) by simp [ints]]
      exact this
  ·have hat := atP_eq (n := n) hj A.out.2.1 (fun h => absurd h hlt)
   have HBR := hide hb
   have HP : Hid (placedP l n = l.take j ++ n :: l.drop j) := hide (by unfold placedP; rw [hat, if_neg (by simp [show l.length ≤ j by omega])])
   clear hat hb
   have hje : j = l.length := by omega
   have HM3 : Hid (j + 1 ≤ maxLen) := hide (Nat.le_trans (show j + 1 ≤ 1001 by omega) (by decide))
   have HM4 : Hid ((j + 1) * 8 ≤ 140737488355328) := hide (Nat.le_trans (Nat.mul_le_mul_right 8 (show j + 1 ≤ 1001 by omega)) (by decide))
   have HLT : Hid ((ints (l.take j)).length = j * 1) := hide (by simp [ints]; omega)
   have HOT : Hid (∀ u ∈ ints (l.take j), u.oneCell' = true) := hide (ints_one _)
   have HM1 : Hid (0 + j ≤ maxLen) := hide (Nat.le_trans (show 0 + j ≤ 1001 by omega) (by decide))
   have HM2 : Hid ((0 + j) * 8 ≤ 140737488355328) := hide (Nat.le_trans (Nat.mul_le_mul_right 8 (show 0 + j ≤ 1001 by omega)) (by decide))
   have HJE := hide hje
   clear hje
   have hjc : ¬ (j : Int) < l.length := by omega
   by_cases hj0 : j = 0
   ·subst hj0
    have hl0 : l.length = 0 := (uh HJE).symm
    go_wp2_with (at_builtin; first | (refine wpList_append_nothing (by rfl) _ _ _ (by rfl) 3 i0 Tryz.underlying25 hi vo 0 vc rfl (by rfl) (by rfl) ?_) | (refine wpList_append_lies _ (by rfl) _ _ _ (by rfl) w.heap.size 3 i0 _ 1 8 Tryz.underlying25 hi hz0 hz1 hz2 rfl (by decide) (.slice none 0 0) 0 ([] : List Value) (by rfl) ((World.ownsRow_nil wr w.heap.size 3 1).alloc _) ⟨wr.heap.size, 0, none⟩ 1 1 [.int .i64 n] (by rfl) (by rfl) (World.news_of_block (cs := #[.int .i64 n]) (t := 3) (fr := (0, 0)) (heap_alloc_new wr _)) (by simp [Value.oneCell']) (by decide) (uh HM3) (uh HM4) (Nat.le_trans (uh HBR).size ((Below.refl _ wr).alloc (Nat.le_refl _) _).size) (wr.heap.size + 1) (by simp) ?_; intro g6 c6 w6 hown7 hgrow7 hat7 hlt7; have BB6 := hide (below_grown ((uh HBR).alloc (uh HBR).size _) hgrow7 (fun q hq => ((World.ownsRow_nil wr w.heap.size 3 1).lt q hq).1)); have OW6 := hide hown7; clear hown7 hgrow7 hat7 hlt7) | (refine wpList_append_zero (by rfl) _ _ _ (by rfl) 3 i0 Tryz.underlying25 hi (some ⟨g6, 0, none⟩) (0 + 1) c6 (owns_cap (uh OW6)) _ _ _ (by first | rfl | simp | omega) (by rfl) (by rfl) ?_))
    go_ret
    rw [uh HP]
    refine ⟨_, rfl, uh BB6, ?_⟩
    have hln : l = [] := List.eq_nil_of_length_eq_zero hl0
    rw [hln]
    exact SlAt.of_owns (uh OW6)
   ·obtain ⟨g, rfl, -, -⟩ := ((uh HV).below (uh HBR)).at1 (show 0 < l.length by omega)
    have HNT : Hid (∀ q u, (ints (l.take j))[q]? = some u → wr.cell? ((⟨g, 0, none⟩ : Addr).add q) = some u) := hide (fun q u hu => by
     rw [Addr.add_lit, Nat.zero_add]
     unfold ints at hu
     rw [List.getElem?_map, List.getElem?_take] at hu
     split at hu
     ·rename_i hqj
      have hql : q < l.length := by omega
      obtain ⟨g', hg', k1, _⟩ := ((uh HV).below (uh HBR)).at1 hql
      simp only [Option.some.injEq, Addr.mk.injEq, and_true] at hg'
      rw [← hg'] at k1
      rw [k1, ← hu]
      simp [ints]
     ·simp at hu)
    have HJP : Hid (0 < j) := hide (by omega)
    go_wp2_with (at_builtin; first | (refine wpList_append_lies _ (by rfl) _ _ _ (by rfl) w.heap.size 3 i0 _ 1 8 Tryz.underlying25 hi hz0 hz1 hz2 rfl (by decide) (.slice none 0 0) 0 [] (by rfl) (World.ownsRow_nil _ _ _ _) ⟨g, 0, none⟩ j vc (ints (l.take j)) (by rfl) (uh HLT) (uh HNT) (uh HOT) (uh HJP) (uh HM1) (uh HM2) (uh HBR).size wr.heap.size rfl ?_; intro g5 c5 w5 hown7 hgrow7 hat7 hlt7; simp only [Nat.zero_add, List.nil_append] at hown7; have BB5 := hide (below_grown (uh HBR) hgrow7 (fun q hq => by simp [Value.ownBlock] at hq)); have OW5 := hide hown7; clear hown7 hgrow7 hat7 hlt7; simp only [Nat.zero_add]) | (refine wpList_append_lies _ (by rfl) _ _ _ (by rfl) w.heap.size 3 i0 _ 1 8 Tryz.underlying25 hi hz0 hz1 hz2 rfl (by decide) (.slice (some ⟨g5, 0, none⟩) j c5) j (ints (l.take j)) (by rfl) ((uh OW5).alloc _) ⟨w5.heap.size, 0, none⟩ 1 1 [.int .i64 n] (by rfl) (by rfl) (World.news_of_block (cs := #[.int .i64 n]) (t := 3) (fr := (0, 0)) (heap_alloc_new w5 _)) (by simp [Value.oneCell']) (by decide) (uh HM3) (uh HM4) (Nat.le_trans (uh BB5).size ((Below.refl _ w5).alloc (Nat.le_refl _) _).size) (w5.heap.size + 1) (by simp) ?_; intro g6 c6 w6 hown7 hgrow7 hat7 hlt7; have BB6 := hide (below_grown ((uh BB5).alloc (uh BB5).size _) hgrow7 (fun q hq => ((uh OW5).lt q hq).1)); have OW6 := hide hown7; clear hown7 hgrow7 hat7 hlt7) | (refine wpList_append_zero (by rfl) _ _ _ (by rfl) 3 i0 Tryz.underlying25 hi (some ⟨g6, 0, none⟩) (j + 1) c6 (owns_cap (uh OW6)) (if vc = j then some ⟨g, 0, none⟩ else some ⟨g, j, none⟩) (l.length - j) (vc - j) (by have := uh HJE; omega) (by rfl) (by rfl) ?_))
    all_goals
     go_ret
     rw [uh HP]
     refine ⟨_, rfl, uh BB6, ?_⟩
     have hdr : l.drop j = [] := List.drop_eq_nil_of_le (by have := uh HJE; omega)
     rw [hdr]
     rw [show (l.take j ++ [n]).length = j + 1 by simp; have := uh HJE; omega, show ints (l.take j ++ [n]) = ints (l.take j) ++ [.int .i64 n] by simp [ints]]
     exact SlAt.of_owns (uh OW6)
end Go.Proofs.YthnggjaecngbiaaGreatDoor
namespace Go.Proofs.YthnggjaecngbiaaGreatDoor
open Go.RowKit
def fourP (t : PTest) : List Int := [t.low, t.low + 1, t.high, t.high + 1]
def stepP (o : List Int) (x : Int) : List Int := if -1000000 ≤ x ∧ x ≤ 1000000 then placedP o x else o
def placesTo (rs : List PRule) (k j : Nat) : List Int := (rs.take j).foldl (fun o r => (fourP (r.tests.getD k noTest)).foldl stepP o) [-1000000]
def placesP (rs : List PRule) (k : Nat) : List Int := placesTo rs k rs.length
theorem stepP_len (o : List Int) (x : Int) : (stepP o x).length ≤ o.length + 1 := by
 unfold stepP
 split
 ·exact placedP_len _ _
 ·omega
theorem placesTo_succ {rs : List PRule} {k j : Nat} (h : j < rs.length) : placesTo rs k (j + 1) = (fourP (rs[j].tests.getD k noTest)).foldl stepP (placesTo rs k j) := by
 unfold placesTo
 rw [List.take_succ_eq_append_getElem h, List.foldl_append]
 rfl
theorem fold_take_succ (l : List Int) (o : List Int) {m : Nat} (h : m < l.length) : (l.take (m + 1)).foldl stepP o = stepP ((l.take m).foldl stepP o) l[m] := by
 rw [List.take_succ_eq_append_getElem h, List.foldl_append]
 rfl
theorem fold_len : ∀ (l : List Int) (o : List Int), (l.foldl stepP o).length ≤ o.length + l.length
 | [], _ => by simp
 | x :: l, o => by
  have h1 := fold_len l (stepP o x)
  have h2 := stepP_len o x
  simp only [List.foldl_cons, List.length_cons]
  omega
theorem placesTo_len {rs : List PRule} {k : Nat} : ∀ j, j ≤ rs.length → (placesTo rs k j).length ≤ 1 + 4 * j
 | 0, _ => by simp [placesTo]
 | j + 1, hj => by
  have h1 := placesTo_len (rs := rs) (k := k) j (by omega)
  rw [placesTo_succ (by omega)]
  have h2 := fold_len (fourP (rs[j].tests.getD k noTest)) (placesTo rs k j)
  have h3 : (fourP (rs[j].tests.getD k noTest)).length = 4 := rfl
  omega
set_option maxRecDepth 100000 in
set_option maxHeartbeats 3200000 in
theorem places_any (x : LItem) (k : Nat) (w : World) (hx : RItemV w x) (hl : x.it.rules.length ≤ 100) (ht : ∀ r ∈ x.it.rules, k < r.tests.length ∧ r.tests.length ≤ 1000 ∧ ∀ t ∈ r.tests, WfT t) :
  Calls Tryz.prog 170 #[riv x, .int .i64 (k : Int)] w fun e w' => ∃ v, e = .returned v ∧ Below w.heap.size w w' ∧ SlAt w' 1 v (placesP x.it.rules k).length (ints (placesP x.it.rules k)) := by
 obtain ⟨⟨nm, bT, mk, po, cs, dr, rl⟩, cv, rv, zv⟩ := x
 obtain ⟨co, cc, hcv⟩ := hx.2.1.form
 obtain ⟨ro, rc, hrv⟩ := hx.2.2.1.form
 obtain ⟨hz, _, hrs, hts⟩ := hx
 simp only at hcv hrv hz hrs hts hl ht
 subst hcv hrv
 simp only [riv, ricells, rmarks, rdrops]
 obtain ⟨mi, hmi⟩ : ∃ mi : Int, (if bT = true then (dr : Int) else (mk : Int)) = mi := ⟨_, rfl⟩
 obtain ⟨db, hdb⟩ : ∃ db, (bT && decide (dr ≠ 0)) = db := ⟨_, rfl⟩
 rw [hmi, hdb]
 clear hmi hdb
 rw [rcells_z] at hrs
 have hmap := zip_snd hz
 have hzl : (zv.zip rl).length = rl.length := by simp [hz]
 have HT : Hid (∀ y ∈ zv.zip rl, k < y.2.tests.length ∧ y.2.tests.length ≤ 1000 ∧ ∀ t ∈ y.2.tests, WfT t) := hide (fun y hy => ht y.2 (List.of_mem_zip hy).2)
 have HTS := hide hts
 clear hts ht
 generalize zv.zip rl = zs at *
 subst hmap
 simp only [List.length_map] at hrs hl hzl ⊢
 clear hz hzl
 have HV := hide hrs
 clear hrs
 obtain ⟨w1, hw1⟩ : ∃ w1, w1 = (w.alloc (.cells #[.string nm, .int .i64 mi, .int .u8 po, .bool db, .slice co cs.length cc, .slice ro zs.length rc] 141)).alloc (.cells #[.int .i64 (-1000000)] 3) := ⟨_, rfl⟩
 have HB1 : Hid (Below w.heap.size w w1) := hide (by rw [hw1]; exact ((Below.refl _ w).alloc (Nat.le_refl _) _).alloc (by simp) _)
 have HN1 : Hid (w1.heap[w.heap.size]? = some (.cells #[.string nm, .int .i64 mi, .int .u8 po, .bool db, .slice co cs.length cc, .slice ro zs.length rc] 141)) := hide (by rw [hw1, Below.heap_alloc _ _ _ (by simp)]; exact alloc_last w _)
 have HO1 : Hid (SlAt w1 1 (.slice (some ⟨w.heap.size + 1, 0, none⟩) 1 1) 1 (ints [-1000000])) := hide (by
  have h1 : w1.heap[w.heap.size + 1]? = some (.cells #[.int .i64 (-1000000)] 3) := by
   have := alloc_last (w.alloc (.cells #[.string nm, .int .i64 mi, .int .u8 po, .bool db, .slice co cs.length cc, .slice ro zs.length rc] 141)) (.cells #[.int .i64 (-1000000)] 3)
   rw [hw1]
   simpa using this
  exact sl_of_arr (l := ints [-1000000]) h1 (Nat.le_refl _) (by decide))
 go_enter Tryz.func170, Tryz.ntmps170
 go_wp2_with fail
 rw [← hw1]
 clear hw1
 go_loopg [5, 6] zs.length (fun g pv i wr => ∃ j : Nat, j ≤ zs.length ∧ g = zs.length - j ∧ i = .int .i64 (j : Int) ∧ Below w1.heap.size w1 wr ∧ SlAt wr 1 pv (placesTo (zs.map Prod.snd) k j).length (ints (placesTo (zs.map Prod.snd) k j)))
 case atStart => exact ⟨0, by omega, rfl, rfl, Below.refl _ _, uh HO1⟩
 case round =>
  obtain ⟨j, hj, hg, rfl, hb, hsl⟩ := hrel
  have A : Aside (gk = zs.length - j ∧ Below w1.heap.size w1 wr ∧ SlAt wr 1 u5 (placesTo (zs.map Prod.snd) k j).length (ints (placesTo (zs.map Prod.snd) k j))) := ⟨hg, hb, hsl⟩
  have hNr := (hb.block _ (lt_of_block (uh HN1))).trans (uh HN1)
  obtain ⟨e0, e1, e2, e3, e4, e5⟩ := cells6b hNr
  have hse := lt_of_block hNr
  clear hg hsl e0 e1 e2 e3 e4
  by_cases hlt : j < zs.length
  ·have hbw := below_after (uh HB1) hb
   have hps : placesTo (zs.map Prod.snd) k (j + 1) = (fourP (zs[j].2.tests.getD k noTest)).foldl stepP (placesTo (zs.map Prod.snd) k j) := by
    have := placesTo_succ (rs := zs.map Prod.snd) (k := k) (j := j) (by simpa using hlt)
    simpa using this
   have hpl := placesTo_len (rs := zs.map Prod.snd) (k := k) j (by simpa using hj)
   obtain ⟨hkt, hkl, hkw⟩ := uh HT zs[j] (List.getElem_mem hlt)
   obtain ⟨g1, rfl, j0, -, hg1⟩ := ((uh HV).below hbw).at2 hlt
   have hf0 := flat_at zcells 2 (fun _ => rfl) zs j 0 hlt (by omega)
   rw [Nat.add_zero] at hf0
   rw [hf0] at j0
   simp only [zcells, List.getElem?_cons_zero] at j0
   rcases (uh HTS zs[j] (List.getElem_mem hlt)).below hbw with ⟨h0, _⟩ | ⟨g2, cap2, hv2, hc2, hm2, hgl2, hx2⟩
   ·omega
   have key2 : ∀ i, i < 4 → wr.cell? ⟨g2, k * 4 + i, none⟩ = (rtcells zs[j].2.tests[k])[i]? := fun i hi => by
    rw [hx2 _ (by omega)]
    exact flat_at rtcells 4 (fun _ => rfl) zs[j].2.tests k i hkt hi
   have k0 := key2 0 (by omega)
   have k1 := key2 1 (by omega)
   have k2 := key2 2 (by omega)
   have k3 := key2 3 (by omega)
   simp only [rtcells, List.getElem?_cons_zero, List.getElem?_cons_succ, Nat.add_zero] at k0 k1 k2 k3
   rw [hv2] at j0
   rw [getD_at _ _ hkt] at hps
   have hwt := hkw zs[j].2.tests[k] (List.getElem_mem hkt)
   have hlo := hwt.low
   have hhi := hwt.high
   have HPS := hide hps
   have hjc : (j : Int) < zs.length := by omega
   have hkc : (k : Int) < zs[j].2.tests.length := by omega
   clear hf0 key2 hx2 hc2 hm2 hv2 hwt hkw hps
   generalize zs[j].2.tests[k] = t at *
   generalize zs[j].2.tests.length = nt at *
   obtain ⟨t0, t1, t2, t3⟩ := t
   simp only at k0 k1 k2 k3 hlo hhi
   have HBW := hide hbw
   clear hb hbw
   obtain ⟨w2, hw2⟩ : ∃ w2, w2 = (wr.alloc (.cells #[.int .u8 (rkind t1), .int .i64 (t0 : Int), .int .i64 t2, .int .i64 t3] 181)).alloc (.cells #[.int .i64 t2, .int .i64 (t2 + 1), .int .i64 t3, .int .i64 (t3 + 1)] 3) := ⟨_, rfl⟩
   have HB2 : Hid (Below wr.heap.size wr w2) := hide (by rw [hw2]; exact ((Below.refl _ wr).alloc (Nat.le_refl _) _).alloc (by simp) _)
   have hN2 : w2.heap[wr.heap.size + 1]? = some (.cells #[.int .i64 t2, .int .i64 (t2 + 1), .int .i64 t3, .int .i64 (t3 + 1)] 3) := by
    have := alloc_last (wr.alloc (.cells #[.int .u8 (rkind t1), .int .i64 (t0 : Int), .int .i64 t2, .int .i64 t3] 181)) (.cells #[.int .i64 t2, .int .i64 (t2 + 1), .int .i64 t3, .int .i64 (t3 + 1)] 3)
    rw [hw2]
    simpa using this
   have HN2 : Hid (w2.heap[wr.heap.size + 1]? = some (.cells (ints (fourP ⟨t0, t1, t2, t3⟩)).toArray 3)) := hide hN2
   clear hN2
   obtain ⟨o0, ho0⟩ : ∃ o0, placesTo (zs.map Prod.snd) k j = o0 := ⟨_, rfl⟩
   have HSL := hide (A.out.2.2.below (uh HB2))
   rw [ho0] at HSL hpl
   rw [ho0] at HPS
   obtain ⟨L, hL⟩ : ∃ L, fourP ⟨t0, t1, t2, t3⟩ = L := ⟨_, rfl⟩
   have hL4 : L.length = 4 := by rw [← hL]; rfl
   have hLb : ∀ y ∈ L, -99999999 ≤ y ∧ y ≤ 99999999 := fun y hy => by
    rw [← hL] at hy
    simp only [fourP, List.mem_cons, List.not_mem_nil, or_false] at hy
    omega
   rw [hL] at HN2 HPS
   have HLB := hide hLb
   clear hL hLb ho0
   go_wp2_with fail
   rw [← hw2]
   clear hw2 k0 k1 k2 k3 j0 e5
   go_loopg [5, 9] 4 (fun g pv jv wx => ∃ m : Nat, m ≤ 4 ∧ g = 4 - m ∧ jv = .int .i64 (m : Int) ∧ Below w2.heap.size w2 wx ∧ SlAt wx 1 pv ((L.take m).foldl stepP o0).length (ints ((L.take m).foldl stepP o0)))
   case atStart => exact ⟨0, by omega, rfl, rfl, Below.refl _ _, uh HSL⟩
   case round =>
    obtain ⟨m, hm, hg, rfl, hb, hsl⟩ := hrel
    have B : Aside (gk = 4 - m ∧ Below w2.heap.size w2 wr ∧ SlAt wr 1 u5 ((L.take m).foldl stepP o0).length (ints ((L.take m).foldl stepP o0))) := ⟨hg, hb, hsl⟩
    clear hg
    have hfl := fold_len (L.take m) o0
    have hft : (L.take m).length ≤ 4 := by rw [List.length_take]; omega
    by_cases hmt : m < 4
    ·have hmL : m < L.length := by omega
     have hN3 := (hb.block _ (lt_of_block (uh HN2))).trans (uh HN2)
     have a0 := (arr_cell hN3 m).1
     rw [show (ints L)[m]? = some (.int .i64 L[m]) by simp [ints, hmL]] at a0
     have hs3 := lt_of_block hN3
     have HST := hide (fold_take_succ L o0 hmL)
     have hyb := uh HLB L[m] (List.getElem_mem hmL)
     have hmc : (m : Int) < 4 := by omega
     obtain ⟨uo, uc, hu5⟩ := hsl.form
     subst hu5
     generalize L[m] = y at *
     generalize (L.take m).foldl stepP o0 = om at *
     have HSM := hide hsl
     clear hb hsl hN3
     by_cases hin : -1000000 ≤ y ∧ y ≤ 1000000
     ·have h1 : ¬ y < -1000000 := by omega
      have h2 : ¬ 1000000 < y := by omega
      have HSP : Hid (stepP om y = placedP om y) := hide (by unfold stepP; rw [if_pos hin])
      have h3 : (-1000000 : Int) ≤ y := hin.1
      have h4 : y ≤ 1000000 := hin.2
      clear hin
      go_wp2_with fail
      refine (placed_any _ om y _ (uh HSM) (by omega)).mono ?_
      rintro e w5 ⟨v5, rfl, hb5, hs5⟩
      have HB5 := hide (below_after B.out.2.1 hb5)
      have HS5 := hide hs5
      clear hb5 hs5
      go_wp2_with fail
      go_roundg (4 - (m + 1))
      case measure => have := B.out.1; omega
      case rel => exact ⟨m + 1, by omega, rfl, by go_num, uh HB5, by rw [uh HST, uh HSP]; exact uh HS5⟩
     ·have HSP : Hid (stepP om y = om) := hide (by unfold stepP; rw [if_neg hin])
      by_cases h3 : -1000000 ≤ y
      ·have h4 : ¬ y ≤ 1000000 := fun h => hin ⟨h3, h⟩
       clear hin
       go_wp2_with fail
       go_roundg (4 - (m + 1))
       case measure => have := B.out.1; omega
       case rel => exact ⟨m + 1, by omega, rfl, by go_num, B.out.2.1, by rw [uh HST, uh HSP]; exact uh HSM⟩
      ·clear hin
       go_wp2_with fail
       go_roundg (4 - (m + 1))
       case measure => have := B.out.1; omega
       case rel => exact ⟨m + 1, by omega, rfl, by go_num, B.out.2.1, by rw [uh HST, uh HSP]; exact uh HSM⟩
    ·have hme : m = 4 := by omega
     have hmc : ¬ (m : Int) < 4 := by omega
     have HME : Hid ((L.take m).foldl stepP o0 = L.foldl stepP o0) := hide (by rw [List.take_of_length_le (by omega)])
     clear hb hsl hme
     go_wp2_with fail
     go_roundg (zs.length - (j + 1))
     case measure => have := A.out.1; omega
     case rel =>
      refine ⟨j + 1, by omega, rfl, by go_num, below_after A.out.2.1 (below_after (uh HB2) B.out.2.1), ?_⟩
      have h5 := B.out.2.2
      rw [uh HME] at h5
      rw [uh HPS]
      exact h5
  ·have hje : j = zs.length := by omega
   have HJ := hide hje
   have hjc : ¬ (j : Int) < zs.length := by omega
   clear hje hb
   go_wp2
   go_ret
   obtain ⟨_, a2, a3⟩ := A.out
   rw [uh HJ] at a3
   refine ⟨_, rfl, below_after (uh HB1) a2, ?_⟩
   unfold placesP
   rw [List.length_map]
   exact a3
end Go.Proofs.YthnggjaecngbiaaGreatDoor
namespace Go.Proofs.YthnggjaecngbiaaGreatDoor
open Go.RowKit
def mergedTo (cols : List ByteArray) (rs : List PRule) (k j : Nat) : List Int := (List.range j).foldl (fun o i => if sameName (cols.getD i noName) (cols.getD k noName) then (placesP rs i).foldl placedP o else o) []
def mergedP (cols : List ByteArray) (rs : List PRule) (k : Nat) : List Int := mergedTo cols rs k cols.length
theorem mergedTo_succ (cols : List ByteArray) (rs : List PRule) (k j : Nat) : mergedTo cols rs k (j + 1) = if sameName (cols.getD j noName) (cols.getD k noName) then (placesP rs j).foldl placedP (mergedTo cols rs k j) else mergedTo cols rs k j := by
 unfold mergedTo
 rw [List.range_succ, List.foldl_append]
 rfl
theorem foldp_len : ∀ (l : List Int) (o : List Int), (l.foldl placedP o).length ≤ o.length + l.length
 | [], _ => by simp
 | x :: l, o => by
  have h1 := foldp_len l (placedP o x)
  have h2 := placedP_len o x
  simp only [List.foldl_cons, List.length_cons]
  omega
theorem placesP_len (rs : List PRule) (k : Nat) : (placesP rs k).length ≤ 1 + 4 * rs.length := placesTo_len _ (Nat.le_refl _)
theorem mergedTo_len (cols : List ByteArray) (rs : List PRule) (k : Nat) : ∀ j, (mergedTo cols rs k j).length ≤ j * (1 + 4 * rs.length)
 | 0 => by simp [mergedTo]
 | j + 1 => by
  have h1 := mergedTo_len cols rs k j
  rw [mergedTo_succ]
  split
  ·have h2 := foldp_len (placesP rs j) (mergedTo cols rs k j)
   have h3 := placesP_len rs j
   rw [Nat.add_mul]
   omega
  ·rw [Nat.add_mul]
   omega
theorem foldp_succ (l : List Int) (o : List Int) {m : Nat} (h : m < l.length) : (l.take (m + 1)).foldl placedP o = placedP ((l.take m).foldl placedP o) l[m] := by
 rw [List.take_succ_eq_append_getElem h, List.foldl_append]
 rfl
set_option maxRecDepth 100000 in
set_option maxHeartbeats 3200000 in
theorem merged_any (x : LItem) (k : Nat) (w : World) (hx : RItemV w x) (hl : x.it.rules.length ≤ 8) (hc : x.it.cols.length ≤ 3) (hk : k < x.it.cols.length) (hwd : ∀ r ∈ x.it.rules, r.tests.length = x.it.cols.length ∧ ∀ t ∈ r.tests, WfT t) :
  Calls Tryz.prog 145 #[riv x, .int .i64 (k : Int)] w fun e w' => ∃ v, e = .returned v ∧ Below w.heap.size w w' ∧ SlAt w' 1 v (mergedP x.it.cols x.it.rules k).length (ints (mergedP x.it.cols x.it.rules k)) := by
 obtain ⟨co, cc, hcv⟩ := hx.2.1.form
 obtain ⟨ro, rc, hrv⟩ := hx.2.2.1.form
 have hriv : riv x = .agg #[.string x.it.name, .int .i64 (rmarks x.it), .int .u8 x.it.policy, .bool (rdrops x.it), .slice co x.it.cols.length cc, .slice ro x.it.rules.length rc] := by
  unfold riv ricells
  rw [hcv, hrv]
 have hcs := hx.2.1
 rw [hcv] at hcs
 have HPLA : Hid (∀ (w' : World) (j : Nat), j < x.it.cols.length → RItemV w' x → Calls Tryz.prog 170 #[.agg #[.string x.it.name, .int .i64 (rmarks x.it), .int .u8 x.it.policy, .bool (rdrops x.it), .slice co x.it.cols.length cc, .slice ro x.it.rules.length rc], .int .i64 (j : Int)] w' fun e w'' => ∃ v, e = .returned v ∧ Below w'.heap.size w' w'' ∧ SlAt w'' 1 v (placesP x.it.rules j).length (ints (placesP x.it.rules j))) := hide (fun w' j hj h1 => by
  rw [← hriv]
  exact places_any x j w' h1 (by omega) (fun r hr => ⟨by rw [(hwd r hr).1]; exact hj, by rw [(hwd r hr).1]; omega, (hwd r hr).2⟩))
 have HXV := hide hx
 have HC := hide hcs
 rw [hriv]
 clear hx hcs hriv hcv hrv hwd
 have hgk : x.it.cols.getD k noName = x.it.cols[k] := getD_at _ _ hk
 obtain ⟨ck, hck⟩ : ∃ ck, x.it.cols[k] = ck := ⟨_, rfl⟩
 rw [hck] at hgk
 have HGK := hide hgk
 have HCK := hide hck
 clear hgk hck
 generalize x.it.name = nm at *
 generalize rmarks x.it = mi at *
 generalize rdrops x.it = db at *
 generalize x.it.policy = pol at *
 obtain ⟨cs, hcsd⟩ : ∃ cs, x.it.cols = cs := ⟨_, rfl⟩
 obtain ⟨rs, hrsd⟩ : ∃ rs, x.it.rules = rs := ⟨_, rfl⟩
 rw [hcsd] at HC HPLA HGK hc hk ⊢
 rw [hrsd] at HPLA hl ⊢
 have HCK2 : Hid (cs[k]? = some ck) := hide (by rw [← uh HCK]; simp [← hcsd])
 clear HCK hcsd hrsd
 obtain ⟨w1, hw1⟩ : ∃ w1, w1 = w.alloc (.cells #[.string nm, .int .i64 mi, .int .u8 pol, .bool db, .slice co cs.length cc, .slice ro rs.length rc] 141) := ⟨_, rfl⟩
 have HB1 : Hid (Below w.heap.size w w1) := hide (by rw [hw1]; exact (Below.refl _ w).alloc (Nat.le_refl _) _)
 have HN1 : Hid (w1.heap[w.heap.size]? = some (.cells #[.string nm, .int .i64 mi, .int .u8 pol, .bool db, .slice co cs.length cc, .slice ro rs.length rc] 141)) := hide (by rw [hw1]; exact alloc_last w _)
 go_enter Tryz.func145, Tryz.ntmps145
 go_wp2_with fail
 rw [← hw1]
 clear hw1
 go_loopg [5, 6] cs.length (fun g pv i wr => ∃ j : Nat, j ≤ cs.length ∧ g = cs.length - j ∧ i = .int .i64 (j : Int) ∧ Below w1.heap.size w1 wr ∧ SlAt wr 1 pv (mergedTo cs rs k j).length (ints (mergedTo cs rs k j)))
 case atStart => exact ⟨0, by omega, rfl, rfl, Below.refl _ _, Or.inl ⟨rfl, _, _, rfl⟩⟩
 case round =>
  obtain ⟨j, hj, hg, rfl, hb, hsl⟩ := hrel
  have A : Aside (gk = cs.length - j ∧ Below w1.heap.size w1 wr ∧ SlAt wr 1 u5 (mergedTo cs rs k j).length (ints (mergedTo cs rs k j))) := ⟨hg, hb, hsl⟩
  have hNr := (hb.block _ (lt_of_block (uh HN1))).trans (uh HN1)
  obtain ⟨e0, e1, e2, e3, e4, e5⟩ := cells6b hNr
  have hse := lt_of_block hNr
  have hbw := below_after (uh HB1) hb
  clear hg
  by_cases hlt : j < cs.length
  ·obtain ⟨gc, rfl, cj, hgc⟩ := ((uh HC).below hbw).at1 hlt
   obtain ⟨gc', hgc', cck, -⟩ := ((uh HC).below hbw).at1 hk
   simp only [Option.some.injEq, Addr.mk.injEq, and_true] at hgc'
   rw [← hgc'] at cck
   rw [show (cs.map Value.string)[j]? = some (.string cs[j]) by simp [hlt]] at cj
   rw [List.getElem?_map, uh HCK2, Option.map_some] at cck
   have hms := mergedTo_succ cs rs k j
   rw [getD_at _ _ hlt, uh HGK] at hms
   have hml := mergedTo_len cs rs k j
   have hml2 : (mergedTo cs rs k j).length ≤ 99 := Nat.le_trans hml (Nat.le_trans (Nat.mul_le_mul (show j ≤ 3 by omega) (show 1 + 4 * rs.length ≤ 33 by omega)) (by decide))
   have HMS := hide hms
   have HPJ := hide (uh HPLA)
   have hjc : (j : Int) < cs.length := by omega
   have hkc : (k : Int) < cs.length := by omega
   have HBW := hide hbw
   have HSL := hide hsl
   obtain ⟨cjv, hcj⟩ : ∃ cjv, cs[j] = cjv := ⟨_, rfl⟩
   rw [hcj] at cj HMS
   clear hcj hgc' hms hml hsl hb hbw hNr
   cases hp : sameName cjv ck with
   | false =>
    rw [hp, if_neg (by simp)] at HMS
    have hp2 : (cjv.toList == ck.toList) = false := hp
    clear hp
    go_wp2_with fail
    go_region
    all_goals
     go_wp2
     go_roundg (cs.length - (j + 1))
     case measure => have := A.out.1; omega
     case rel => exact ⟨j + 1, by omega, rfl, by go_num, A.out.2.1.drew, by rw [uh HMS]; exact (uh HSL).below (Below.refl _ _).drew⟩
   | true =>
    rw [hp, if_pos rfl] at HMS
    have hp2 : (cjv.toList == ck.toList) = true := hp
    have hpl := placesP_len rs j
    obtain ⟨o0, ho0⟩ : ∃ o0, mergedTo cs rs k j = o0 := ⟨_, rfl⟩
    obtain ⟨L, hL⟩ : ∃ L, placesP rs j = L := ⟨_, rfl⟩
    rw [ho0] at HMS HSL hml2
    rw [hL] at HMS hpl
    have HPJ2 := hide (uh HPJ wr.drew j hlt ((uh HXV).below (uh HBW).drew))
    rw [hL] at HPJ2
    clear hp hL ho0
    go_wp2_with fail
    go_region
    all_goals
     go_wp2_with fail
     refine (uh HPJ2).mono ?_
     rintro e w5 ⟨v5, rfl, hb5, hs5⟩
     obtain ⟨fo, fc, rfl⟩ := hs5.form
     have HB5 := hide (below_of_drew hb5)
     have HS5 := hide hs5
     have HSO := hide ((uh HSL).below (below_of_drew hb5))
     clear hb5 hs5 e0 e1 e2 e3 e4 e5 cj cck
     go_wp2_with fail
     go_loopg [5, 8] L.length (fun g pv jv wx => ∃ m : Nat, m ≤ L.length ∧ g = L.length - m ∧ jv = .int .i64 (m : Int) ∧ Below w5.heap.size w5 wx ∧ SlAt wx 1 pv ((L.take m).foldl placedP o0).length (ints ((L.take m).foldl placedP o0)))
     case atStart => exact ⟨0, by omega, rfl, rfl, Below.refl _ _, uh HSO⟩
     case round =>
      obtain ⟨m, hm, hg, rfl, hb, hsl⟩ := hrel
      have B : Aside (gk = L.length - m ∧ Below w5.heap.size w5 wr ∧ SlAt wr 1 u5 ((L.take m).foldl placedP o0).length (ints ((L.take m).foldl placedP o0))) := ⟨hg, hb, hsl⟩
      clear hg
      have hfl := foldp_len (L.take m) o0
      have hft : (L.take m).length ≤ 33 := by rw [List.length_take]; omega
      by_cases hmt : m < L.length
      ·obtain ⟨g6, rfl, a0, hg6⟩ := ((uh HS5).below hb).at1 hmt
       rw [show (ints L)[m]? = some (.int .i64 L[m]) by simp [ints, hmt]] at a0
       have HST := hide (foldp_succ L o0 hmt)
       have hmc : (m : Int) < L.length := by omega
       obtain ⟨uo, uc, hu5⟩ := hsl.form
       subst hu5
       generalize L[m] = y at *
       generalize (L.take m).foldl placedP o0 = om at *
       have HSM := hide hsl
       clear hb hsl
       go_wp2_with fail
       refine (placed_any _ om y _ (uh HSM) (by omega)).mono ?_
       rintro e w6 ⟨v6, rfl, hb6, hs6⟩
       have HB6 := hide (below_after B.out.2.1 hb6)
       have HS6 := hide hs6
       clear hb6 hs6
       go_wp2_with fail
       go_roundg (L.length - (m + 1))
       case measure => have := B.out.1; omega
       case rel => exact ⟨m + 1, by omega, rfl, by go_num, uh HB6, by rw [uh HST]; exact uh HS6⟩
      ·have hme : m = L.length := by omega
       have hmc : ¬ (m : Int) < L.length := by omega
       have HME : Hid ((L.take m).foldl placedP o0 = L.foldl placedP o0) := hide (by rw [List.take_of_length_le (by omega)])
       clear hb hsl hme
       go_wp2_with fail
       go_roundg (cs.length - (j + 1))
       case measure => have := A.out.1; omega
       case rel =>
        refine ⟨j + 1, by omega, rfl, by go_num, below_after A.out.2.1 (below_after (uh HB5) B.out.2.1), ?_⟩
        have h5 := B.out.2.2
        rw [uh HME] at h5
        rw [uh HMS]
        exact h5
  ·have hje : j = cs.length := by omega
   have HJ := hide hje
   have hjc : ¬ (j : Int) < cs.length := by omega
   clear hje hb
   go_wp2
   go_ret
   obtain ⟨_, a2, a3⟩ := A.out
   rw [uh HJ] at a3
   exact ⟨_, rfl, below_after (uh HB1) a2, a3⟩
end Go.Proofs.YthnggjaecngbiaaGreatDoor
