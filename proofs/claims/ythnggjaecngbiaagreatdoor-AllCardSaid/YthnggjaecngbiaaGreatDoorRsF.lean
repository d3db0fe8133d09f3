import Derived.Test.YthnggjaecngbiaaGreatDoorRsD
import Derived.Test.YthnggjaecngbiaaGreatDoorSrH
import Derived.Test.YthnggjaecngbiaaGreatDoorLgL
namespace Go.Proofs.YthnggjaecngbiaaGreatDoor
open Go.RowKit
def simpleTo (its : List PItem) (it : PItem) (j : Nat) : Bool := it.isT && (it.cols.take j).all fun c => !(its.getD (placeP its c).toNat noItem).isT
def simpleP (its : List PItem) (it : PItem) : Bool := simpleTo its it it.cols.length
theorem simpleTo_succ {its : List PItem} {it : PItem} {j : Nat} (h : j < it.cols.length) : simpleTo its it (j + 1) = (simpleTo its it j && !(its.getD (placeP its it.cols[j]).toNat noItem).isT) := by
 unfold simpleTo
 rw [List.take_succ_eq_append_getElem h, List.all_append, Bool.and_assoc]
 simp
def seekAns (its : List PItem) (nm : ByteArray) (many : Bool) : Option (List Int) × Int :=
 if namedP its nm then (if simpleP its (its.getD (placeP its nm).toNat noItem) then (seekP (its.getD (placeP its nm).toNat noItem).cols (its.getD (placeP its nm).toNat noItem).rules many (its.getD (placeP its nm).toNat noItem).cols.length [], 0) else (none, 6)) else (none, 4)
def SeekAns (its : List PItem) (nm : ByteArray) (many : Bool) (w : World) (e : Ending) (w' : World) : Prop :=
 ∃ sl n, e = .returned (.tuple #[sl, .bool (seekAns its nm many).1.isSome, .int .i64 (seekAns its nm many).2]) ∧ Below w.heap.size w w' ∧ SlAt w' 1 sl n (ints ((seekAns its nm many).1.getD [])) ∧ n = ((seekAns its nm many).1.getD []).length
set_option maxRecDepth 100000 in
set_option maxHeartbeats 3200000 in
theorem rSeek_any (g : Nat) (its : List PItem) (nm : ByteArray) (many : Bool) (w : World) (h : RPlanAt w g its) :
  Calls Tryz.prog 86 #[.pointer (some ⟨g, 0, none⟩), .string nm, .bool many] w (SeekAns its nm many w) := by
 have HP := hide h
 obtain ⟨pv, xs, hN, hit, hxs, hwf, hok⟩ := h
 obtain ⟨po, pcap, rfl⟩ := hit.1.form
 have hlen : xs.length ≤ 12 := by have := hok.len; rw [← hxs] at this; simpa using this
 have hxl : xs.length = its.length := by rw [← hxs]; simp
 have HI := hide hit
 have HX := hide hxs
 have HOK := hide hok
 have HWF := hide hwf
 have HXL := hide hxl
 have hcell : ∀ (w' : World) (j : Nat) (hj : j < xs.length), Below w.heap.size w w' → ∃ gi, po = some ⟨gi, 0, none⟩ ∧ gi < w.heap.size ∧ (w'.cell? ⟨gi, j * 6, none⟩ = some (.string xs[j].it.name) ∧ w'.cell? ⟨gi, j * 6 + 1, none⟩ = some (.int .i64 (rmarks xs[j].it)) ∧ w'.cell? ⟨gi, j * 6 + 2, none⟩ = some (.int .u8 xs[j].it.policy) ∧ w'.cell? ⟨gi, j * 6 + 3, none⟩ = some (.bool (rdrops xs[j].it)) ∧ w'.cell? ⟨gi, j * 6 + 4, none⟩ = some xs[j].cv ∧ w'.cell? ⟨gi, j * 6 + 5, none⟩ = some xs[j].rv) := fun w' j hj hb => by
  rcases hit.1 with ⟨h0, _⟩ | ⟨gi, cap, hv, hc, hm, hgl, hx⟩
  ·omega
  simp only [Value.slice.injEq] at hv
  obtain ⟨rfl, _, rfl⟩ := hv
  exact ⟨gi, rfl, hgl, ritem_cells hit.1 hb hj⟩
 have HCELL := hide hcell
 have hgs := lt_of_block hN
 have c0 : w.cell? ⟨g, 0, none⟩ = some (.slice po xs.length pcap) := by simp [World.cell?, hN]
 have HC0 : Hid (∀ w', Below w.heap.size w w' → w'.cell? ⟨g, 0, none⟩ = some (.slice po xs.length pcap)) := hide (fun w' hb => (hb.cell (p := ⟨g, 0, none⟩) hgs).trans c0)
 clear hN hit hxs hok hwf hcell hxl
 rcases named_place (its := its) (nm := nm) with ⟨h1, i, h2, h3⟩ | ⟨h1, h2⟩
 ·have hix : i < xs.length := by have := uh HXL; omega
  have hgd : its.getD (placeP its nm).toNat noItem = its[i] := by rw [h2, Int.toNat_natCast, getD_at _ _ h3]
  have HANS : Hid (seekAns its nm many = if simpleP its its[i] then (seekP its[i].cols its[i].rules many its[i].cols.length [], 0) else (none, 6)) := hide (by unfold seekAns; rw [if_pos h1, hgd])
  have hxe : its[i] = xs[i].it := by simp [← uh HX]
  have hcan := can_pol ((uh HOK).can its[i] (List.getElem_mem h3))
  have hpos : its[i].isT = true → 0 < its[i].policy := fun hT => by
   rcases (uh HOK).can its[i] (List.getElem_mem h3) with hc | hc
   ·have := hc.isT
    rw [hT] at this
    cases this
   ·have := hc.pol
    unfold isPol at this
    simp only [decide_eq_true_eq] at this
    omega
  have hclen := (uh HOK).clen its[i] (List.getElem_mem h3)
  have hrlen := (uh HOK).rlen its[i] (List.getElem_mem h3)
  have hwid := (uh HOK).width its[i] (List.getElem_mem h3)
  have hahd := (uh HOK).ahead i h3
  rw [hxe] at HANS hcan hpos hclen hrlen hwid hahd
  have hwi := uh HWF xs[i] (List.getElem_mem hix)
  have hxv := (uh HI).2 xs[i] (List.getElem_mem hix)
  have hxc := fun w' (hb : Below w.heap.size w w') => uh HCELL w' i hix hb
  have HPI := hide h2
  have hic : ¬ (i : Int) < 0 := by omega
  have hicx : (i : Int) < xs.length := by omega
  clear h1 h2 hgd hxe
  generalize xs[i] = x at *
  obtain ⟨co, cc, hcv⟩ := hxv.2.1.form
  obtain ⟨ro, rc, hrv⟩ := hxv.2.2.1.form
  have hriv : riv x = .agg #[.string x.it.name, .int .i64 (rmarks x.it), .int .u8 x.it.policy, .bool (rdrops x.it), .slice co x.it.cols.length cc, .slice ro x.it.rules.length rc] := by
   unfold riv ricells
   rw [hcv, hrv]
  have HSEEK : Hid (∀ (w' : World), RItemV w' x → Calls Tryz.prog 119 #[.agg #[.string x.it.name, .int .i64 (rmarks x.it), .int .u8 x.it.policy, .bool (rdrops x.it), .slice co x.it.cols.length cc, .slice ro x.it.rules.length rc], .slice none 0 0, .bool many] w' (SeekOf x.it.cols x.it.rules many x.it.cols.length [] w')) := hide (fun w' hx' => by
   rw [← hriv]
   exact seek_any x many hrlen hclen (fun r hr => ⟨hwid r hr, (hwi.rules r hr).tests⟩) x.it.cols.length [] _ w' hx' (Or.inl ⟨rfl, _, _, rfl⟩) (by simp))
  rw [hcv, hrv] at hxc
  have hcs := hxv.2.1
  rw [hcv] at hcs
  have HXC := hide hxc
  have HC := hide hcs
  have HXV := hide hxv
  have HAH := hide hahd
  have HST0 := hide (fun j (hj : j < x.it.cols.length) => simpleTo_succ (its := its) hj)
  clear hxc hcs hxv hahd hwid hwi hriv hcv hrv
  obtain ⟨its0, hits0⟩ : ∃ it0, x.it = it0 := ⟨_, rfl⟩
  rw [hits0] at HANS hcan hpos hclen hrlen HSEEK HXC HC HAH HST0
  generalize rmarks its0 = mi at *
  generalize rdrops its0 = db at *
  have HCC := hide hits0
  clear hits0
  go_enter Tryz.func86, Tryz.ntmps86
  go_wp2_with fail
  refine (rplace_any _ xs nm _ (uh HI) (by omega)).mono ?_
  rintro e w1 ⟨rfl, hb1⟩
  rw [uh HX, uh HPI]
  have HB1 := hide hb1
  have c1 := uh HC0 w1 hb1
  obtain ⟨gi, rfl, hgi, k0, k1, k2, k3, k4, k5⟩ := uh HXC w1 hb1
  have hgi1 : gi < w1.heap.size := Nat.lt_of_lt_of_le hgi hb1.size
  have hgs1 : g < w1.heap.size := Nat.lt_of_lt_of_le hgs hb1.size
  obtain ⟨w2, hw2⟩ : ∃ w2, w2 = w1.alloc (.cells #[.string its0.name, .int .i64 mi, .int .u8 its0.policy, .bool db, .slice co its0.cols.length cc, .slice ro its0.rules.length rc] 141) := ⟨_, rfl⟩
  have HB2 : Hid (Below w1.heap.size w1 w2) := hide (by rw [hw2]; exact (Below.refl _ w1).alloc (Nat.le_refl _) _)
  have HN2 : Hid (w2.heap[w1.heap.size]? = some (.cells #[.string its0.name, .int .i64 mi, .int .u8 its0.policy, .bool db, .slice co its0.cols.length cc, .slice ro its0.rules.length rc] 141)) := hide (by rw [hw2]; exact alloc_last w1 _)
  have HB02 := hide (below_after hb1 (uh HB2))
  obtain ⟨tb, htb⟩ : ∃ tb, its0.isT = tb := ⟨_, rfl⟩
  have hpol : (decide ((0 : Int) < its0.policy)) = tb := by
   cases tb with
   | true => simpa using hpos htb
   | false =>
    rcases hcan with ⟨h1, _⟩ | ⟨_, h2⟩
    ·rw [htb] at h1; cases h1
    ·rw [h2]; rfl
  have HS0 : Hid (simpleTo its its0 0 = tb) := hide (by unfold simpleTo; rw [htb]; simp)
  clear hb1 c0 hcan hpos htb
  go_wp2_with fail
  rw [← hw2]
  clear hw2 k0 k1 k2 k3 k4 k5
  go_loopg [11, 12] its0.cols.length (fun gk sv kv wr => ∃ m : Nat, m ≤ its0.cols.length ∧ gk = its0.cols.length - m ∧ kv = .int .i64 (m : Int) ∧ sv = .bool (simpleTo its its0 m) ∧ Below w2.heap.size w2 wr)
  case atStart => exact ⟨0, by omega, rfl, rfl, by rw [uh HS0, ← hpol], Below.refl _ _⟩
  case round =>
   obtain ⟨m, hm, hg, rfl, rfl, hb⟩ := hrel
   have A : Aside (gk = its0.cols.length - m ∧ Below w2.heap.size w2 wr) := ⟨hg, hb⟩
   clear hg
   have hb0 := below_after (uh HB02) hb
   have hN3 := (hb.block _ (lt_of_block (uh HN2))).trans (uh HN2)
   obtain ⟨_, _, _, _, e4, _⟩ := cells6b hN3
   have hse := lt_of_block hN3
   by_cases hlt : m < its0.cols.length
   ·have hst := uh HST0 m hlt
    obtain ⟨pi, hpl, hpi⟩ := uh HAH its0.cols[m] (List.getElem_mem hlt)
    have hpii : pi < its.length := by omega
    have hpix : pi < xs.length := by have := uh HXL; omega
    rw [hpl, Int.toNat_natCast, getD_at _ _ hpii] at hst
    have hxe2 : its[pi] = xs[pi].it := by simp [← uh HX]
    have hcan2 := can_pol ((uh HOK).can its[pi] (List.getElem_mem hpii))
    have hpol2 : (its[pi].policy == 0) = !its[pi].isT := by
     rcases hcan2 with ⟨h1, h2⟩ | ⟨h1, h2⟩
     ·rw [h1]; simpa using h2
     ·rw [h1, h2]; rfl
    rw [← hpol2, hxe2] at hst
    obtain ⟨gi', hgi', _, -, -, pc, -, -, -⟩ := uh HCELL wr pi hpix hb0
    simp only [Option.some.injEq, Addr.mk.injEq, and_true] at hgi'
    rw [← hgi'] at pc
    obtain ⟨gc, rfl, cm, hgc⟩ := ((uh HC).below hb0).at1 hlt
    rw [show (its0.cols.map Value.string)[m]? = some (.string its0.cols[m]) by simp [hlt]] at cm
    have c2 := uh HC0 wr hb0
    have hmc : (m : Int) < its0.cols.length := by omega
    have hpc : (pi : Int) < xs.length := by omega
    have hgi2 : gi < wr.heap.size := Nat.lt_of_lt_of_le hgi hb0.size
    have hgs2 : g < wr.heap.size := Nat.lt_of_lt_of_le hgs hb0.size
    have HPL := hide hpl
    have HST := hide hst
    have HIW : Hid (RItemsV wr (.slice (some ⟨gi, 0, none⟩) xs.length pcap) xs) := hide ⟨(uh HI).1.below hb0, fun x hx => ((uh HI).2 x hx).below hb0⟩
    generalize its0.cols[m] = c at *
    generalize xs[pi].it.policy = pp at *
    obtain ⟨r0, hr0⟩ : ∃ r0, simpleTo its its0 m = r0 := ⟨_, rfl⟩
    rw [hr0] at HST ⊢
    have HCE : Hid (∀ w', Below wr.heap.size wr w' → w'.cell? ⟨g, 0, none⟩ = some (.slice (some ⟨gi, 0, none⟩) xs.length pcap) ∧ w'.cell? ⟨w1.heap.size, 4, none⟩ = some (.slice (some ⟨gc, 0, none⟩) its0.cols.length cc) ∧ w'.cell? ⟨gc, m, none⟩ = some (.string c) ∧ w'.cell? ⟨gi, pi * 6 + 2, none⟩ = some (.int .u8 pp)) := hide (fun w' hb' => ⟨(hb'.cell (p := ⟨g, 0, none⟩) hgs2).trans c2, (hb'.cell (p := ⟨w1.heap.size, 4, none⟩) hse).trans e4, (hb'.cell (p := ⟨gc, m, none⟩) hgc).trans cm, (hb'.cell (p := ⟨gi, pi * 6 + 2, none⟩) hgi2).trans pc⟩)
    clear hb hb0 hN3 hst hpl hpol2 hcan2 hxe2 hgi' hr0
    cases r0 with
    | false =>
     go_wp2_with fail
     go_region
     all_goals
      go_wp2
      go_roundg (its0.cols.length - (m + 1))
      case measure => have := A.out.1; omega
      case rel => exact ⟨m + 1, by omega, rfl, by go_num, by rw [uh HST]; rfl, A.out.2.drew⟩
    | true =>
     go_wp2_with fail
     go_region_held3 (fun w' => w'.cell? ⟨g, 0, none⟩ = some (.slice (some ⟨gi, 0, none⟩) xs.length pcap) ∧ w'.cell? ⟨w1.heap.size, 4, none⟩ = some (.slice (some ⟨gc, 0, none⟩) its0.cols.length cc) ∧ w'.cell? ⟨gc, m, none⟩ = some (.string c) ∧ w'.cell? ⟨gi, pi * 6 + 2, none⟩ = some (.int .u8 pp)) (go_keep) (first | (go_at_call 78; refine (rplace_any _ xs c _ (by exact ⟨(uh HIW).1.below (by exact (Below.refl _ _).drew), fun x hx => ((uh HIW).2 x hx).below (by exact (Below.refl _ _).drew)⟩) (by omega)).mono ?_; rintro e w5 ⟨rfl, hb5⟩; rw [uh HX, uh HPL]; have HB5 := hide (below_of_drew hb5); obtain ⟨z0, z1, z2, z3⟩ := uh HCE _ (below_of_drew hb5); clear hb5))
     go_wp2_with fail
     go_roundg (its0.cols.length - (m + 1))
     case measure => have := A.out.1; omega
     case rel => exact ⟨m + 1, by omega, rfl, by go_num, by rw [uh HST]; rfl, below_after A.out.2 (uh HB5)⟩
   ·have hme : m = its0.cols.length := by omega
    subst hme
    have hmc : ¬ ((its0.cols.length : Nat) : Int) < its0.cols.length := by omega
    have HS1 : Hid (simpleTo its its0 its0.cols.length = simpleP its its0) := hide rfl
    rw [uh HS1]
    obtain ⟨e0, e1, e2, e3, -, e5⟩ := cells6b hN3
    have HBR := hide hb0
    clear hb hb0 hN3
    cases hS : simpleP its its0 with
    | false =>
     have HA : Hid (seekAns its nm many = (none, 6)) := hide (by rw [uh HANS, hS]; rfl)
     clear hS
     go_wp2_with fail
     go_ret3
     refine ⟨_, _, by rw [uh HA]; rfl, uh HBR, ?_, rfl⟩
     rw [uh HA]
     exact Or.inl ⟨rfl, _, _, rfl⟩
    | true =>
     have HA : Hid (seekAns its nm many = (seekP its0.cols its0.rules many its0.cols.length [], 0)) := hide (by rw [uh HANS, hS]; rfl)
     clear hS
     go_wp2_with fail
     refine (uh HSEEK _ ((uh HXV).below (uh HBR))).mono ?_
     rintro e w6 ⟨sl, rfl, hb6, hr6⟩
     have HB6 := hide (below_after (uh HBR) hb6)
     have HR6 := hide hr6
     clear hb6 hr6 e0 e1 e2 e3 e4 e5
     cases hQ : seekP its0.cols its0.rules many its0.cols.length [] with
     | none =>
      have HA2 : Hid (seekAns its nm many = (none, 0)) := hide (by rw [uh HA, hQ])
      simp only [Option.isSome_none]
      clear hQ
      go_wp2_with fail
      go_ret3
      refine ⟨_, _, by rw [uh HA2]; rfl, uh HB6, ?_, rfl⟩
      rw [uh HA2]
      exact Or.inl ⟨rfl, _, _, rfl⟩
     | some r =>
      have HA2 : Hid (seekAns its nm many = (some r, 0)) := hide (by rw [uh HA, hQ])
      have HQ := hide hQ
      simp only [Option.isSome_some]
      clear hQ
      go_wp2_with fail
      go_ret3
      refine ⟨sl, _, by rw [uh HA2]; rfl, uh HB6, ?_, rfl⟩
      rw [uh HA2]
      exact uh HR6 r (uh HQ)
 ·have HE : Hid (seekAns its nm many = (none, 4)) := hide (by unfold seekAns; rw [h1]; rfl)
  have H2 := hide h2
  clear h1 h2
  go_enter Tryz.func86, Tryz.ntmps86
  go_wp2_with fail
  refine (rplace_any _ xs nm _ (uh HI) (by omega)).mono ?_
  rintro e w1 ⟨rfl, hb1⟩
  rw [uh HX, uh H2]
  have HB1 := hide hb1
  clear hb1
  go_wp2_with fail
  go_ret3
  refine ⟨_, _, by rw [uh HE]; rfl, uh HB1, ?_, rfl⟩
  rw [uh HE]
  exact Or.inl ⟨rfl, _, _, rfl⟩
end Go.Proofs.YthnggjaecngbiaaGreatDoor
namespace Go.Proofs.YthnggjaecngbiaaGreatDoor
open Go.RowKit
theorem alone_simple (its : List PItem) (it : PItem) : aloneP its it = simpleP its it := by
 unfold aloneP simpleP simpleTo
 rw [List.take_length]
 congr 1
 rw [List.not_any_eq_all_not]
 rfl
theorem least_seekAns {its : List PItem} (ok : OkPlan its) (nm : ByteArray) (many : Bool) : leastAns its nm many = seekAns its nm many := by
 unfold leastAns seekAns
 by_cases hn : namedP its nm = true
 ·rw [if_pos hn, if_pos hn, alone_simple]
  obtain ⟨i, h2, h3⟩ := placeP_in hn
  have hgd : its.getD (placeP its nm).toNat noItem = its[i] := by rw [h2, Int.toNat_natCast, getD_at _ _ h3]
  rw [hgd, least_seek many (ok.width its[i] (List.getElem_mem h3)) (ok.lims its[i] (List.getElem_mem h3))]
 ·rw [if_neg hn, if_neg hn]
theorem leastAns_len {its : List PItem} (ok : OkPlan its) (nm : ByteArray) (many : Bool) : ((leastAns its nm many).1.getD []).length ≤ 3 := by
 unfold leastAns
 by_cases hn : namedP its nm = true
 ·rw [if_pos hn]
  obtain ⟨i, h2, h3⟩ := placeP_in hn
  have hgd : its.getD (placeP its nm).toNat noItem = its[i] := by rw [h2, Int.toNat_natCast, getD_at _ _ h3]
  rw [hgd]
  have hc := ok.clen its[i] (List.getElem_mem h3)
  split
  ·cases hq : leastP its[i].cols its[i].rules many its[i].cols.length [] with
   | none => simp
   | some r =>
    have := searchC_len _ _ _ _ _ hq
    simp only [Option.getD_some]
    simp at this
    omega
  ·simp
 ·rw [if_neg hn]
  simp
end Go.Proofs.YthnggjaecngbiaaGreatDoor
namespace Go.Proofs.YthnggjaecngbiaaGreatDoor
open Go.RowKit
set_option maxRecDepth 100000 in
set_option maxHeartbeats 3200000 in
theorem seeks_any (g : Nat) (h : Hist) (gx gy : Nat) (its : List PItem) (nm : ByteArray) (many : Bool) (w : World) (k : LawAt w g h (fun _ => False)) (hp : (gx, gy, its) ∈ h.ps)
  (hns : (h.ns.length + 4 + (h.ns.length + 4) / 4 + 192) * 24 ≤ 281474976710656) :
  Calls Tryz.prog 60 #[.pointer (some ⟨g, 0, none⟩), .agg #[.pointer (some ⟨gx, 0, none⟩), .pointer (some ⟨gy, 0, none⟩)], .string nm, .bool many] w fun e w' => e = .returned (.bool true) ∧ Below g w w' ∧ ∃ l1 : List (Value × Nat × Int), l1.length = 4 ∧ LawAt w' g { h with ns := h.ns ++ l1 } (fun _ => False) := by
 have hgl := k.gt
 obtain ⟨hpx, hpy⟩ := k.still.ps _ hp
 simp only at hpx hpy
 have hok : OkPlan its := by obtain ⟨_, _, _, _, _, _, h6⟩ := hpx; exact h6
 have hll := leastAns_len hok nm many
 have HGAP : Hid (∀ w', Below w.heap.size w w' → Calls Tryz.prog 30 #[.pointer (some ⟨gx, 0, none⟩), .string nm] w' (LeastAns its nm false w')) := hide (fun w' hb' => gap_any gx its nm w' (hpx.below hb'))
 have HOVR : Hid (∀ w', Below w.heap.size w w' → Calls Tryz.prog 31 #[.pointer (some ⟨gx, 0, none⟩), .string nm] w' (LeastAns its nm true w')) := hide (fun w' hb' => overlap_any gx its nm w' (hpx.below hb'))
 have HSK : Hid (∀ w', Below w.heap.size w w' → Calls Tryz.prog 86 #[.pointer (some ⟨gy, 0, none⟩), .string nm, .bool many] w' fun e w'' => ∃ sl, e = .returned (.tuple #[sl, .bool (leastAns its nm many).1.isSome, .int .i64 (leastAns its nm many).2]) ∧ Below w'.heap.size w' w'' ∧ SlAt w'' 1 sl ((leastAns its nm many).1.getD []).length (ints ((leastAns its nm many).1.getD []))) := hide (fun w' hb' => (rSeek_any gy its nm many w' (hpy.below hb')).mono fun e w'' hs => by
  obtain ⟨sl, n, h1, h2, h3, h4⟩ := hs
  rw [least_seekAns hok]
  subst h4
  exact ⟨sl, h1, h2, h3⟩)
 obtain ⟨w0, hw0⟩ : ∃ w0, w0 = w.alloc (.cells #[.pointer (some ⟨gx, 0, none⟩), .pointer (some ⟨gy, 0, none⟩)] 105) := ⟨_, rfl⟩
 have hb0 : Below w.heap.size w w0 := by rw [hw0]; exact (Below.refl _ w).alloc (Nat.le_refl _) _
 have hN0 : w0.heap[w.heap.size]? = some (.cells #[.pointer (some ⟨gx, 0, none⟩), .pointer (some ⟨gy, 0, none⟩)] 105) := by rw [hw0]; exact alloc_last w _
 obtain ⟨⟨n0, n1⟩, -⟩ := box2 hN0
 have hs0 := lt_of_block hN0
 have HN0 := hide hN0
 have HB0 := hide hb0
 have HK := hide k
 have HNS := hide hns
 clear k hp hns hpx hpy hok hb0 hN0
 cases many
 all_goals
  unfold LeastAns at HGAP HOVR
  first
   | (obtain ⟨an, han⟩ : ∃ an, leastAns its nm false = an := ⟨_, rfl⟩; rw [han] at HGAP HSK hll; clear HOVR han)
   | (obtain ⟨an, han⟩ : ∃ an, leastAns its nm true = an := ⟨_, rfl⟩; rw [han] at HOVR HSK hll; clear HGAP han)
  obtain ⟨L, hL⟩ : ∃ L, an.1.getD [] = L := ⟨_, rfl⟩
  obtain ⟨yes, hyes⟩ : ∃ yes, an.1.isSome = yes := ⟨_, rfl⟩
  obtain ⟨er, her⟩ : ∃ er, an.2 = er := ⟨_, rfl⟩
  simp only [hL, hyes, her] at *
  clear hL hyes her
  go_enter Tryz.func60, Tryz.ntmps60
  go_wp2_with fail
  rw [← hw0]
  clear hw0
  first
   | refine (uh HGAP _ (by first | exact uh HB0 | exact (uh HB0).drew)).mono ?_
   | refine (uh HOVR _ (by first | exact uh HB0 | exact (uh HB0).drew)).mono ?_
  rintro e w2 ⟨lo, lc, rfl, hb2, ho2⟩
  have HB2 := hide hb2
  have HB02 := hide (below_after (uh HB0) hb2)
  have HO2 := hide ho2
  have hN2 := (hb2.block _ hs0).trans (uh HN0)
  clear n0 n1
  obtain ⟨⟨n0, n1⟩, -⟩ := box2 hN2
  have hs2 := lt_of_block hN2
  clear hb2 ho2 hN2
  go_wp2_with fail
  refine (uh HSK _ (uh HB02)).mono ?_
  rintro e w3 ⟨sl, rfl, hb3, ho3⟩
  obtain ⟨ko, kc, rfl⟩ := ho3.form
  have HB3 := hide hb3
  have HB03 := hide (below_after (uh HB02) hb3)
  have HO3 := hide ho3
  clear hb3 ho3 n0 n1
  go_wp2_with fail
  refine (sameNumbers_any _ _ L _ ((SlAt.of_owns (uh HO2)).below (uh HB3)) (uh HO3) (by omega)).mono ?_
  rintro e w4 ⟨rfl, hb4⟩
  have HB4 := hide (below_after (uh HB3) hb4)
  have HB04 := hide (below_after (uh HB03) hb4)
  clear hb4
  go_wp2_with fail
  refine (looksAt_any g h _ _ ((uh HK).below (uh HB04))).mono ?_
  rintro e w5 ⟨rfl, hb5⟩
  have hB25 : Below w2.heap.size w2 w5 := below_after (uh HB4) hb5
  have hB05 := below_after (uh HB04) hb5
  have hk5 := (uh HK).below hB05
  have hs01 := (uh HB0).size
  have hl5 := owns_base (owns_below (uh HO2) hB25) (base' := g) (by first | omega | (simp; omega))
  have hlb : ∀ b, (Value.slice lo L.length lc).ownBlock = some b → False ∨ (w.heap.size ≤ b ∧ b < w5.heap.size) := fun b hb => by
   have h1 := (uh HO2).lt b hb
   have h2 := hB25.size
   first | (right; omega) | (simp at h1; right; omega)
  have HLB := hide hlb
  have HL5 := hide hl5
  have HB05 := hide (hB05.mono (Nat.le_of_lt hgl))
  have HK5 := hide hk5
  clear hb5 hB25 hB05 hk5 hl5 hlb
  go_wp2_with fail
  refine (ownNumbers_any g _ _ lo _ lc _ _ (uh HK5) (uh HL5) (uh HLB) (by omega) (uh HNS)).mono ?_
  rintro e w7 ⟨rfl, hb7, l2, hl2, hk7⟩
  have HK7 := hide hk7
  have HB7 := hide ((uh HB05).trans hb7)
  clear hk7 hb7
  go_wp2_with fail
  refine (num_any _ _).mono ?_
  rintro e w8 ⟨rfl, rfl⟩
  go_wp2_with fail
  refine (num_any _ _).mono ?_
  rintro e w9 ⟨rfl, rfl⟩
  go_wp2_with fail
  go_ret
  exact ⟨by simp, uh HB7, l2, hl2, uh HK7⟩
end Go.Proofs.YthnggjaecngbiaaGreatDoor
namespace Go.Proofs.YthnggjaecngbiaaGreatDoor
open Go.RowKit
set_option maxRecDepth 100000 in
set_option maxHeartbeats 3200000 in
theorem step_seek (g : Nat) (h : Hist) (q p c : Int) (s : ByteArray) (vo : Option Addr) (vn vc : Nat) (w : World) (k : LawAt w g h (fun _ => False)) (hq : q = 6 ∨ q = 7) (hp1 : -9223372036854775808 ≤ p) (hp2 : p ≤ 9223372036854775807)
  (hns : (h.ns.length + 4 + (h.ns.length + 4) / 4 + 192) * 24 ≤ 281474976710656) :
  Calls Tryz.prog 33 #[.pointer (some ⟨g, 0, none⟩), .agg #[.int .i64 q, .int .i64 p, .string s, .int .i64 c, .slice vo vn vc]] w (StepOf g h w) := by
 have hgl := k.gt
 have e1 : (q == 1) = false := by rw [beq_eq_false_iff_ne]; omega
 have e2 : (q == 2) = false := by rw [beq_eq_false_iff_ne]; omega
 obtain ⟨v0, _, _, _, _, _, ⟨c0, -, -, -, -, -⟩, s0, -, -, -, -, -⟩ := k.read
 obtain ⟨o0, p0, rfl⟩ := s0.form
 have hmx := s0.len_le
 obtain ⟨w0, hw0⟩ : ∃ w0, w0 = w.alloc (.cells #[.int .i64 q, .int .i64 p, .string s, .int .i64 c, .slice vo vn vc] 82) := ⟨_, rfl⟩
 have hb0 : Below w.heap.size w w0 := by rw [hw0]; exact (Below.refl _ w).alloc (Nat.le_refl _) _
 have HN0 : Hid (w0.heap[w.heap.size]? = some (.cells #[.int .i64 q, .int .i64 p, .string s, .int .i64 c, .slice vo vn vc] 82)) := hide (by rw [hw0]; exact alloc_last w _)
 have HB0 := hide hb0
 have HK := hide k
 by_cases hz : h.ps.length = 0
 ·have l0 : ((h.ps.length : Int) == 0) = true := by rw [hz]; rfl
  clear k hns hb0 s0 hw0
  have HB1 : Hid (Below w.heap.size w (w.alloc (.cells #[.int .i64 q, .int .i64 p, .string s, .int .i64 c, .slice vo vn vc] 82))) := hide ((Below.refl _ w).alloc (Nat.le_refl _) _)
  clear hz
  go_enter Tryz.func33, Tryz.ntmps33
  go_wp2_with fail
  go_ret
  exact ⟨rfl, (uh HB1).mono (Nat.le_of_lt hgl), h, More.refl h, ((uh HK).below (uh HB1)).weaken (fun _ hf => hf.elim)⟩
 ·have l0 : ((h.ps.length : Int) == 0) = false := by rw [beq_eq_false_iff_ne]; omega
  have hpos : 0 < h.ps.length := by omega
  have c0' : w0.cell? ⟨g, 0, none⟩ = some (.slice o0 h.ps.length p0) := (hb0.cell (p := ⟨g, 0, none⟩) hgl).trans c0
  have hgl0 : g < w0.heap.size := Nat.lt_of_lt_of_le hgl hb0.size
  obtain ⟨gp, rfl, -, -, hgp⟩ := (s0.below hb0).at2 hpos
  have HPC : Hid (∀ i, i < h.ps.length → ∃ gx gy its, (gx, gy, its) ∈ h.ps ∧ w0.cell? ⟨gp, i * 2, none⟩ = some (.pointer (some ⟨gx, 0, none⟩)) ∧ w0.cell? ⟨gp, i * 2 + 1, none⟩ = some (.pointer (some ⟨gy, 0, none⟩))) := hide (fun i hi => by
   obtain ⟨gp', hgp', b0, b1, _⟩ := (s0.below hb0).at2 hi
   simp only [Option.some.injEq, Addr.mk.injEq, and_true] at hgp'
   subst hgp'
   have f0 := flat_at (fun p : Nat × Nat × List PItem => [Value.pointer (some ⟨p.1, 0, none⟩), Value.pointer (some ⟨p.2.1, 0, none⟩)]) 2 (fun _ => rfl) h.ps i 0 hi (by omega)
   have f1 := flat_at (fun p : Nat × Nat × List PItem => [Value.pointer (some ⟨p.1, 0, none⟩), Value.pointer (some ⟨p.2.1, 0, none⟩)]) 2 (fun _ => rfl) h.ps i 1 hi (by omega)
   rw [Nat.add_zero] at f0
   exact ⟨h.ps[i].1, h.ps[i].2.1, h.ps[i].2.2, List.getElem_mem hi, b0.trans f0, b1.trans f1⟩)
  obtain ⟨⟨k0, k1, k2, k3, k4⟩, -⟩ := cells5 (uh HN0)
  have hs0 := lt_of_block (uh HN0)
  have HNS := hide hns
  clear k hns hb0 s0 hz
  go_enter Tryz.func33, Tryz.ntmps33
  go_wp2_with fail
  rw [← hw0]
  clear hw0
  obtain ⟨i, hpi⟩ : ∃ i, pickL p h.ps.length = i := ⟨_, rfl⟩
  have hi : i < h.ps.length := by rw [← hpi]; exact pickL_lt hpos
  obtain ⟨gx, gy, its, hmem, b0, b1⟩ := uh HPC i hi
  have hic : (i : Int) < h.ps.length := by omega
  have HPI := hide hpi
  have hn1 := World.new_ne w0 ⟨g, 0, none⟩ c0'
  have hn2 := World.new_ne w0 ⟨w.heap.size, 1, none⟩ k1
  have hn3 := World.new_ne w0 ⟨gp, i * 2, none⟩ b0
  clear hpi
  obtain ⟨w2, hw2⟩ : ∃ w2, w2 = (w0.alloc (.cells #[.pointer (some ⟨gx, 0, none⟩), .pointer (some ⟨gy, 0, none⟩)] 105)).drew := ⟨_, rfl⟩
  have HB2 : Hid (Below w0.heap.size w0 w2) := hide (by rw [hw2]; exact ((Below.refl _ w0).alloc (Nat.le_refl _) _).drew)
  have HNP : Hid (w2.heap[w0.heap.size]? = some (.cells #[.pointer (some ⟨gx, 0, none⟩), .pointer (some ⟨gy, 0, none⟩)] 105)) := hide (by rw [hw2]; exact alloc_last w0 _)
  have HN2 := hide (((uh HB2).block _ hs0).trans (uh HN0))
  have HB02 := hide (below_after (uh HB0) (uh HB2))
  have HK2 := hide (((uh HK).below (uh HB02)).weaken (Y := fun _ => False) (fun _ hf => hf.elim))
  have HPX := hide ((uh HK2).still.ps _ hmem).1
  have HPY := hide ((uh HK2).still.ps _ hmem).2
  have HBG := hide ((uh HB02).mono (Nat.le_of_lt hgl))
  have HMM := hide hmem
  clear hmem
  go_region_held3 (fun w' => w'.cell? ⟨g, 0, none⟩ = some (.slice (some ⟨gp, 0, none⟩) h.ps.length p0) ∧ w'.cell? ⟨w.heap.size, 1, none⟩ = some (.int .i64 p) ∧ w'.cell? ⟨gp, i * 2, none⟩ = some (.pointer (some ⟨gx, 0, none⟩)) ∧ w'.cell? ⟨gp, i * 2 + 1, none⟩ = some (.pointer (some ⟨gy, 0, none⟩))) (go_keep) (first | (go_at_call 56; refine (lpick_any p h.ps.length _ hpos hmx hp1 hp2).mono ?_; rintro e w5 ⟨rfl, rfl⟩; rw [uh HPI]))
  all_goals
   rw [← hw2]
   clear hw2 c0 c0' k0 k1 k2 k3 k4 b0 b1 hn1 hn2 hn3
   obtain ⟨⟨m0, m1, m2, m3, m4⟩, -⟩ := cells5 (uh HN2)
   obtain ⟨⟨n0, n1⟩, -⟩ := box2 (uh HNP)
   have hs2 := lt_of_block (uh HN2)
   have hsp := lt_of_block (uh HNP)
   rcases hq with rfl | rfl
   all_goals
    go_wp2_with fail
    refine (seeks_any g h gx gy its s _ _ (uh HK2) (uh HMM) (uh HNS)).mono ?_
    rintro e w3 ⟨rfl, hb3, l1, hl1, hk3⟩
    have HB3 := hide ((uh HBG).trans hb3)
    have HK3 := hide hk3
    have HM3 : Hid (More h { h with ns := h.ns ++ l1 }) := hide ⟨by simp, by simp, by simp, by simp [hl1]⟩
    clear hb3 hk3 hl1
    go_wp2_with fail
    go_ret
    exact ⟨rfl, uh HB3, _, uh HM3, uh HK3⟩
end Go.Proofs.YthnggjaecngbiaaGreatDoor
namespace Go.Proofs.YthnggjaecngbiaaGreatDoor
open Go.RowKit
theorem stepAll7 (g : Nat) (h : Hist) (o : OpD) (vals : List Int) (n : Nat) (w : World) (k : LawAt w g h (fun _ => False)) (hk : o.k ≤ 7) (ok : OpOk w o vals) (hf : Few h n) (hn : n ≤ 2199023256000) (ht : Tab w) :
  Calls Tryz.prog 33 #[.pointer (some ⟨g, 0, none⟩), .agg #[.int .i64 o.k, .int .i64 o.p, .string o.s, .int .i64 o.c, .slice o.vo o.vn o.vc]] w (StepOf g h w) := by
 by_cases h5 : o.k ≤ 5
 ·exact stepAll g h o vals n w k h5 ok hf hn ht
 ·obtain ⟨-, -, -, -, f5⟩ := hf.fits hn
  exact step_seek g h o.k o.p o.c o.s o.vo o.vn o.vc w k (by omega) ok.lo ok.hi f5
set_option maxRecDepth 100000 in
set_option maxHeartbeats 3200000 in
theorem played7_any (v : Value) (ops : List OpD) (w : World) (hv : OpsV w v ops) (hok : ∀ o ∈ ops, ∃ vals, OpOk w o vals) (hn : ops.length ≤ 2199023255552) (ht : Tab w) :
  Calls Tryz.prog 11 #[v, .int .i64 7] w fun e w' => e = .returned (.bool true) ∧ Below w.heap.size w w' := by
 obtain ⟨ao, cap, rfl⟩ := hv.form
 have HV := hide hv
 have HOK := hide hok
 have HT := hide ht
 obtain ⟨w0, hw0⟩ : ∃ w0, w0 = w.alloc (.cells #[.slice none 0 0, .slice none 0 0, .slice none 0 0, .slice none 0 0, .slice none 0 0, .slice none 0 0] 79) := ⟨_, rfl⟩
 have hb0 : Below w.heap.size w w0 := by rw [hw0]; exact (Below.refl _ w).alloc (Nat.le_refl _) _
 have HK0 : Hid (LawAt w0 w.heap.size ⟨[], [], [], []⟩ (fun _ => False)) := hide (by rw [hw0]; exact LawAt.new w)
 have HB0 := hide hb0
 have HF0 : Hid (Few ⟨[], [], [], []⟩ 0) := hide ⟨by simp, by simp, by simp, by simp⟩
 clear hv hok ht hb0
 go_enter Tryz.func11, Tryz.ntmps11
 go_wp2_with fail
 rw [← hw0]
 clear hw0
 refine (step_plain w.heap.size _ 0 0 _ none 0 0 _ (uh HK0) (by unfold maxLen; exact Nat.le_trans (m := 1000) (by decide) (by decide)) (tab_below (uh HB0) (uh HT))).mono ?_
 rintro e w1 ⟨rfl, hb1, h1, hm1, hk1⟩
 have HB1 := hide ((uh HB0).trans hb1)
 have HK1 := hide hk1
 have HF1 := hide ((uh HF0).more hm1)
 clear hb1 hm1 hk1
 go_wp2_with fail
 refine (step_new w.heap.size _ 0 0 _ none 0 0 _ (uh HK1) (by unfold maxLen; exact Nat.le_trans (m := 1000) (by decide) (by decide)) ((uh HF1).fits (by decide)).1 ((uh HF1).fits (by decide)).2.1).mono ?_
 rintro e w2 ⟨rfl, hb2, h2, hm2, hk2⟩
 have HB2 := hide ((uh HB1).trans hb2)
 have HK2 := hide hk2
 have HF2 := hide ((uh HF1).more hm2)
 clear hb2 hm2 hk2
 have HA3 := hide ((Below.refl _ w2).alloc (Nat.le_refl _) (.cells #[.int .i64 30, .int .i64 1] 3))
 have HI3 : Hid (InSl (w2.alloc (.cells #[.int .i64 30, .int .i64 1] 3)) (.slice (some ⟨w2.heap.size, 0, none⟩) 2 2) [30, 1]) := hide (Or.inr ⟨w2.heap.size, 0, 2, rfl, by simp, by decide, by simp, fun j x hx => by
  have hb : (w2.alloc (.cells #[.int .i64 30, .int .i64 1] 3)).heap[w2.heap.size]? = some (.cells #[.int .i64 30, .int .i64 1] 3) := alloc_last w2 _
  match j, hx with
  | 0, hx => simp at hx; subst hx; exact (box2 hb).1.1
  | 1, hx => simp at hx; subst hx; exact (box2 hb).1.2
  | j + 2, hx => simp at hx⟩)
 have hg2 : w.heap.size ≤ w2.heap.size := Nat.le_of_lt (uh HK2).gt
 have HB2' := hide ((uh HB2).trans ((uh HA3).mono hg2))
 go_wp2_with fail
 refine (step_more w.heap.size h2 4 0 0 _ (some ⟨w2.heap.size, 0, none⟩) 2 2 [30, 1] _ (((uh HK2).below (uh HA3)).weaken (fun _ hf => hf.elim)) (by decide) (by decide) (by decide) (by decide) (by decide) (uh HI3) (by decide) ((uh HF2).fits (by decide)).2.2.1 ((uh HF2).fits (by decide)).2.2.2.1 (tab_below (uh HB2') (uh HT))).mono ?_
 rintro e w3 ⟨rfl, hb3, h3, hm3, hk3⟩
 have HB3 := hide ((uh HB2').trans hb3)
 have HK3 := hide hk3
 have HF3 := hide ((uh HF2).more hm3)
 clear hb3 hm3 hk3
 go_wp2_with fail
 go_loopg [7, 8] ops.length (fun gk ov iv wr => ∃ (j : Nat) (h' : Hist), j ≤ ops.length ∧ gk = ops.length - j ∧ iv = .int .i64 (j : Int) ∧ ov = .bool true ∧ LawAt wr w.heap.size h' (fun _ => False) ∧ Few h' (j + 3) ∧ Below w.heap.size w wr)
 case atStart => exact ⟨0, h3, by omega, rfl, rfl, rfl, uh HK3, uh HF3, uh HB3⟩
 case round =>
  obtain ⟨j, h', hj, hg, rfl, rfl, hk, hfew, hb⟩ := hrel
  have A : Aside (gk = ops.length - j ∧ LawAt wr w.heap.size h' (fun _ => False) ∧ Few h' (j + 3) ∧ Below w.heap.size w wr) := ⟨hg, hk, hfew, hb⟩
  clear hg hk hfew HK0 HB0 HF0 HB1 HK1 HF1 HB2 HK2 HF2 HA3 HI3 HB2' HB3 HK3 HF3
  by_cases hlt : j < ops.length
  ·rcases uh HV with ⟨h0, _⟩ | ⟨gs, off, cap', hv, hc, hmx, hgl, hxx⟩
   ·rw [h0] at hlt; simp at hlt
   simp only [Value.slice.injEq] at hv
   obtain ⟨rfl, _, rfl⟩ := hv
   obtain ⟨q0, q1, q2, q3, q4⟩ := hxx j ops[j] (List.getElem?_eq_getElem hlt)
   have k0 := (hb.cell (p := ⟨gs, off + j * 5, none⟩) hgl).trans q0
   have k1 := (hb.cell (p := ⟨gs, off + j * 5 + 1, none⟩) hgl).trans q1
   have k2 := (hb.cell (p := ⟨gs, off + j * 5 + 2, none⟩) hgl).trans q2
   have k3 := (hb.cell (p := ⟨gs, off + j * 5 + 3, none⟩) hgl).trans q3
   have k4 := (hb.cell (p := ⟨gs, off + j * 5 + 4, none⟩) hgl).trans q4
   clear q0 q1 q2 q3 q4
   obtain ⟨vals, hov⟩ := uh HOK ops[j] (List.getElem_mem hlt)
   have hjc : (j : Int) < ops.length := by omega
   have hjd : decide ((j : Int) < ops.length) = true := by simp; omega
   have hjcap : (j : Int) < cap := by omega
   have hcapm : (cap : Int) ≤ 9223372036854775807 := by unfold maxLen at hmx; omega
   have hjn : j + 3 ≤ 2199023256000 := by omega
   have HOV := hide (hov.below hb)
   have HSTEP : Hid (ops[j].k ≤ 7 → Calls Tryz.prog 33 #[.pointer (some ⟨w.heap.size, 0, none⟩), .agg #[.int .i64 ops[j].k, .int .i64 ops[j].p, .string ops[j].s, .int .i64 ops[j].c, .slice ops[j].vo ops[j].vn ops[j].vc]] wr (StepOf w.heap.size h' wr)) := hide (fun hk7 => stepAll7 w.heap.size h' ops[j] vals (j + 3) wr A.out.2.1 hk7 (uh HOV) A.out.2.2.1 hjn (tab_below hb (uh HT)))
   generalize ops[j] = o at *
   obtain ⟨k, p, s, c, vo, vn, vc⟩ := o
   simp only at k0 k1 k2 k3 k4 HSTEP
   have hgl' : gs < wr.heap.size := Nat.lt_of_lt_of_le hgl hb.size
   clear hxx hb hc hmx hgl hov
   by_cases hk : k ≤ 7
   ·go_wp2_with fail
    refine (uh HSTEP hk).mono ?_
    rintro e w4 ⟨rfl, hb4, h4, hm4, hk4⟩
    have HB4 := hide (A.out.2.2.2.trans hb4)
    have HK4 := hide hk4
    have HF4 := hide (A.out.2.2.1.more hm4)
    clear hb4 hm4 hk4 k0 k1 k2 k3 k4
    go_wp2_with fail
    refine (looksAt_any w.heap.size h4 _ _ (uh HK4)).mono ?_
    rintro e w5 ⟨rfl, hb5⟩
    have HB5 := hide ((uh HB4).trans (hb5.mono (Nat.le_of_lt (uh HK4).gt)))
    have HK5 := hide (((uh HK4).below hb5).weaken (Y := fun _ => False) (fun _ hf => hf.elim))
    clear hb5
    go_wp2_with fail
    go_roundg (ops.length - (j + 1))
    case measure => have := A.out.1; omega
    case rel => exact ⟨j + 1, h4, by omega, rfl, by go_num, rfl, uh HK5, (uh HF4).mono (by omega), uh HB5⟩
   ·go_wp2_with fail
    refine (looksAt_any w.heap.size h' _ _ A.out.2.1).mono ?_
    rintro e w5 ⟨rfl, hb5⟩
    have HB5 := hide (A.out.2.2.2.trans (hb5.mono (Nat.le_of_lt A.out.2.1.gt)))
    have HK5 := hide ((A.out.2.1.below hb5).weaken (Y := fun _ => False) (fun _ hf => hf.elim))
    clear hb5
    go_wp2_with fail
    go_roundg (ops.length - (j + 1))
    case measure => have := A.out.1; omega
    case rel => exact ⟨j + 1, h', by omega, rfl, by go_num, rfl, uh HK5, A.out.2.2.1.mono (by omega), uh HB5⟩
  ·have hjc : ¬ (j : Int) < ops.length := by omega
   have hjd : decide ((j : Int) < ops.length) = false := by simp; omega
   clear hb
   go_wp2_with fail
   go_ret
   exact ⟨rfl, A.out.2.2.2⟩
theorem allLaw_any (v : Value) (ops : List OpD) (w : World) (hv : OpsV w v ops) (hok : ∀ o ∈ ops, ∃ vals, OpOk w o vals) (hn : ops.length ≤ 2199023255552) (ht : Tab w) :
  Calls Tryz.prog 10 #[v] w fun e w' => e = .returned (.bool true) ∧ Below w.heap.size w w' := by
 obtain ⟨ao, cap, rfl⟩ := hv.form
 have HV := hide hv
 have HS := hide hok
 have HT := hide ht
 clear hv hok ht
 go_enter Tryz.func10, Tryz.ntmps10
 go_wp2_with fail
 refine (played7_any _ ops _ (uh HV) (uh HS) hn (uh HT)).mono ?_
 rintro e w1 ⟨rfl, hb⟩
 have HB := hide hb
 clear hb
 go_wp2_with fail
 go_ret
 exact ⟨rfl, uh HB⟩
end Go.Proofs.YthnggjaecngbiaaGreatDoor
