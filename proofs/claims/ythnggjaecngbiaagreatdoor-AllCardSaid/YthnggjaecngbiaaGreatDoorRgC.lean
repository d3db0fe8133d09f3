import Derived.Test.YthnggjaecngbiaaGreatDoorRgB
import Derived.Test.YthnggjaecngbiaaGreatDoorLbA
import Derived.Deep.RegionHeld3
import Derived.Test.YthnggjaecngbiaaGreatDoorRfG
import Derived.Test.YthnggjaecngbiaaGreatDoorCnA
import Derived.Test.YthnggjaecngbiaaGreatDoorEvA
import Derived.Test.YthnggjaecngbiaaGreatDoorEvD
import Derived.Test.YthnggjaecngbiaaGreatDoorExC
namespace Go.Proofs.YthnggjaecngbiaaGreatDoor
open Go.RowKit
theorem cells6b {w : World} {N : Nat} {a b c d e f : Value} {T : TypeId} (h : w.heap[N]? = some (.cells #[a, b, c, d, e, f] T)) :
  w.cell? ⟨N, 0, none⟩ = some a ∧ w.cell? ⟨N, 1, none⟩ = some b ∧ w.cell? ⟨N, 2, none⟩ = some c ∧ w.cell? ⟨N, 3, none⟩ = some d ∧ w.cell? ⟨N, 4, none⟩ = some e ∧ w.cell? ⟨N, 5, none⟩ = some f := by
 simp [World.cell?, h]
theorem ritem_cells {w w' : World} {g : Nat} {xs : List LItem} {n cap : Nat} (h : SlAt w 6 (.slice (some ⟨g, 0, none⟩) n cap) xs.length (xs.flatMap ritCells)) (hb : Below w.heap.size w w') {j : Nat} (hj : j < xs.length) :
  w'.cell? ⟨g, j * 6, none⟩ = some (.string xs[j].it.name) ∧ w'.cell? ⟨g, j * 6 + 1, none⟩ = some (.int .i64 (rmarks xs[j].it)) ∧ w'.cell? ⟨g, j * 6 + 2, none⟩ = some (.int .u8 xs[j].it.policy) ∧ w'.cell? ⟨g, j * 6 + 3, none⟩ = some (.bool (rdrops xs[j].it)) ∧ w'.cell? ⟨g, j * 6 + 4, none⟩ = some xs[j].cv ∧ w'.cell? ⟨g, j * 6 + 5, none⟩ = some xs[j].rv := by
 rcases h with ⟨h0, _⟩ | ⟨g', cap', hv, hc, hm, hgl, hx⟩
 ·omega
 simp only [Value.slice.injEq] at hv
 obtain ⟨hg, _, _⟩ := hv
 simp only [Option.some.injEq, Addr.mk.injEq] at hg
 obtain ⟨rfl, _⟩ := hg
 have key : ∀ i, i < 6 → w'.cell? ⟨g, j * 6 + i, none⟩ = (ritCells xs[j])[i]? := fun i hi => by
  rw [hb.cell (p := ⟨g, j * 6 + i, none⟩) hgl, hx _ (by omega)]
  exact flat_at ritCells 6 (fun _ => rfl) xs j i hj hi
 exact ⟨key 0 (by omega), key 1 (by omega), key 2 (by omega), key 3 (by omega), key 4 (by omega), key 5 (by omega)⟩
theorem colLab_succ {its : List PItem} {ls : List Nat} {cs : List ByteArray} {n m : Nat} (h : m < cs.length) : colLab its ls (cs.take (m + 1)) n = colLab its ls (cs.take m) n ||| ls.getD (placeP its cs[m]).toNat 0 := by
 unfold colLab
 rw [List.take_succ_eq_append_getElem h, List.foldl_append]
 rfl
theorem colLab_congr {its : List PItem} {ls ls' : List Nat} : ∀ (cs : List ByteArray) (n : Nat), (∀ c ∈ cs, ls.getD (placeP its c).toNat 0 = ls'.getD (placeP its c).toNat 0) → colLab its ls cs n = colLab its ls' cs n
 | [], _, _ => rfl
 | c :: cs, n, h => by
  unfold colLab
  rw [List.foldl_cons, List.foldl_cons, h c (by simp)]
  exact colLab_congr cs _ (fun c hc => h c (by simp [hc]))
def dropK (d n : Nat) : Nat → Nat
 | 0 => n
 | k + 1 => if d / 2 ^ k % 2 = 1 ∧ dropK d n k / 2 ^ k % 2 = 1 then dropK d n k - 2 ^ k else dropK d n k
theorem dropK_le {d n : Nat} (h : n ≤ 7) : ∀ k, dropK d n k ≤ 7
 | 0 => h
 | k + 1 => by
  have := dropK_le (d := d) h k
  unfold dropK
  split
  ·exact Nat.le_trans (Nat.sub_le _ _) this
  ·exact this
theorem dropK_all {d n : Nat} (hd : d ≤ 7) (hn : n ≤ 7) : dropK d n 3 = n &&& (7 - d) := by
 have key : ∀ d : Fin 8, ∀ n : Fin 8, dropK d.val n.val 3 = n.val &&& (7 - d.val) := by decide
 exact key ⟨d, by omega⟩ ⟨n, by omega⟩
set_option maxRecDepth 100000 in
set_option maxHeartbeats 3200000 in
theorem rlabel_any (g : Nat) (its : List PItem) : ∀ (i : Nat) (w : World), RPlanAt w g its → i < its.length →
  Calls Tryz.prog 79 #[.pointer (some ⟨g, 0, none⟩), .int .i64 (i : Int)] w fun e w' => e = .returned (.int .i64 (((labsP its).getD i 0 : Nat) : Int)) ∧ Below w.heap.size w w' := by
 intro i
 induction i using Nat.strongRecOn with
 | _ i ih =>
  intro w h hi
  have HP := hide h
  obtain ⟨v, xs, hN, hit, hxs, hwf, hok⟩ := h
  have hlen : xs.length ≤ 12 := by have := hok.len; rw [← hxs] at this; simpa using this
  have hix : i < xs.length := by rw [← hxs] at hi; simpa using hi
  rcases hit.1 with ⟨h0, _⟩ | ⟨gi, cap, rfl, hc, hm, hgl, hx⟩
  ·omega
  obtain ⟨k0, k1, k2, k3, k4, k5⟩ := ritem_cells hit.1 (Below.refl _ w) hix
  have hxe : its[i] = xs[i].it := by simp [← hxs]
  have hla := labsP_at hi
  have hah := hok.ahead i hi
  have hcan := hok.can its[i] (List.getElem_mem hi)
  have hmk := hok.marks its[i] (List.getElem_mem hi)
  have hcl := hok.clen its[i] (List.getElem_mem hi)
  rw [hxe] at hla hah hcan hmk hcl
  have hpi := can_pol hcan
  have hxi := hit.2 xs[i] (List.getElem_mem hix)
  generalize xs[i] = x at *
  obtain ⟨co, cc, hcv⟩ := hxi.2.1.form
  obtain ⟨ro, rc, hrv⟩ := hxi.2.2.1.form
  obtain ⟨⟨nm, bT, mk, po, cs, dr, rl⟩, cv, rv0, zv⟩ := x
  simp only [rmarks, rdrops] at k0 k1 k2 k3 k4 k5 hcv hrv hla hah hmk hcl hpi
  subst hcv hrv
  have c0 : w.cell? ⟨g, 0, none⟩ = some (.slice (some ⟨gi, 0, none⟩) xs.length cap) := by simp [World.cell?, hN]
  have HN := hide hN
  have HI := hide hit
  have HXI := hide hxi
  have HAH := hide hah
  have HLA := hide hla
  have HX := hide hxs
  have hic : (i : Int) < xs.length := by omega
  clear hx hm hN hit hxi hah hla hwf hxs hxe
  rcases hpi with ⟨rfl, hp0⟩ | ⟨rfl, rfl⟩
  ·-- a table
   have hpb : (po == 0) = false := by simpa using hp0
   simp only [if_true, Bool.true_and] at k1 k3
   have hm0 : mk = 0 := by
    rcases hcan with hc | hc
    ·have := hc.isT
     simp at this
    ·exact hc.marks
   subst hm0
   have hle7 : ∀ x ∈ labsP its, x ≤ 7 := labsTo_le (fun it hi => (hok.marks it hi).1) _
   have HRES : Hid ((labsP its).getD i 0 = dropK dr (colLab its (labsP its) cs 0) 3) := hide (by
    rw [dropK_all hmk.2 (colLab_le _ _ hle7 _ _ (by omega)), uh HLA]
    unfold lab1
    simp only
    congr 1
    apply colLab_congr
    intro c hc
    obtain ⟨i', h1, h2⟩ := uh HAH c hc
    rw [h1, Int.toNat_natCast]
    exact labsTo_get (by omega) h2)
   have HOK := hide hok
   have HLE := hide hle7
   clear hcan hok hle7 HLA
   obtain ⟨bd, hbd⟩ : ∃ bd, decide (dr ≠ 0) = bd := ⟨_, rfl⟩
   rw [hbd] at k3
   clear hbd
   obtain ⟨w1, hw1⟩ : ∃ w1, w1 = w.alloc (.cells #[.string nm, .int .i64 (dr : Int), .int .u8 po, .bool bd, .slice co cs.length cc, .slice ro rl.length rc] 141) := ⟨_, rfl⟩
   have hb1 : Below w.heap.size w w1 := by rw [hw1]; exact (Below.refl _ w).alloc (Nat.le_refl _) _
   have HN1 : Hid (w1.heap[w.heap.size]? = some (.cells #[.string nm, .int .i64 (dr : Int), .int .u8 po, .bool bd, .slice co cs.length cc, .slice ro rl.length rc] 141)) := hide (by rw [hw1]; exact alloc_last w _)
   have HB1 := hide hb1
   clear hb1
   go_enter Tryz.func79, Tryz.ntmps79
   go_wp2_with fail
   rw [← hw1]
   clear hw1 k0 k1 k2 k3 k4 k5 c0
   go_loopg [6, 7] cs.length (fun gk nv kv wr => ∃ m : Nat, m ≤ cs.length ∧ gk = cs.length - m ∧ kv = .int .i64 (m : Int) ∧ nv = .int .i64 ((colLab its (labsP its) (cs.take m) 0 : Nat) : Int) ∧ Below w1.heap.size w1 wr)
   case atStart => exact ⟨0, by omega, rfl, rfl, rfl, Below.refl _ _⟩
   case round =>
    obtain ⟨m, hm, hg, rfl, rfl, hb⟩ := hrel
    have A : Aside (gk = cs.length - m ∧ Below w1.heap.size w1 wr) := ⟨hg, hb⟩
    have hbw := below_after (uh HB1) hb
    have HNr := hide ((hb.block _ (lt_of_block (uh HN1))).trans (uh HN1))
    obtain ⟨e0, e1, e2, e3, e4, e5⟩ := cells6b (uh HNr)
    have hse := lt_of_block (uh HNr)
    clear hg
    have hn7 := colLab_le its (labsP its) (uh HLE) (cs.take m) 0 (by omega)
    by_cases hlt : m < cs.length
    ·have hmc : (m : Int) < cs.length := by omega
     have hNg := (hbw.block g (lt_of_block (uh HN))).trans (uh HN)
     have c0 : wr.cell? ⟨g, 0, none⟩ = some (.slice (some ⟨gi, 0, none⟩) xs.length cap) := by simp [World.cell?, hNg]
     have hgs := lt_of_block hNg
     rcases ((uh HXI).below hbw).2.1 with ⟨h0, _⟩ | ⟨gc, ccap, hcv, _, _, hcgl, hcx⟩
     ·simp only at h0; omega
     simp only [Value.slice.injEq] at hcv
     obtain ⟨rfl, _, rfl⟩ := hcv
     have cc0 : wr.cell? ⟨gc, m, none⟩ = some (.string cs[m]) := by rw [hcx m (by simp only; omega)]; simp [hlt]
     obtain ⟨i', hpl, hi'⟩ := uh HAH cs[m] (List.getElem_mem hlt)
     have HST := hide (colLab_succ (its := its) (ls := labsP its) (n := 0) hlt)
     rw [hpl, Int.toNat_natCast] at HST
     have hl7 := getD_le7 (uh HLE) i'
     have hor := bits_or7 hn7 hl7
     have HIH := hide (ih i' hi')
     have hi2 : i' < its.length := by omega
     have HPW := hide ((uh HP).below hbw)
     have HIW : Hid (RItemsV wr (.slice (some ⟨gi, 0, none⟩) xs.length cap) xs) := hide ⟨(uh HI).1.below hbw, fun x hx => ((uh HI).2 x hx).below hbw⟩
     have HPL := hide hpl
     generalize cs[m] = c at *
     generalize (labsP its).getD i' 0 = l7 at *
     generalize colLab its (labsP its) (cs.take m) 0 = n7 at *
     clear hpl hcx hb hbw hNg hi'
     have HCE : Hid (∀ w', Below wr.heap.size wr w' → w'.cell? ⟨g, 0, none⟩ = some (.slice (some ⟨gi, 0, none⟩) xs.length cap) ∧ w'.cell? ⟨w.heap.size, 4, none⟩ = some (.slice (some ⟨gc, 0, none⟩) cs.length cc) ∧ w'.cell? ⟨gc, m, none⟩ = some (.string c)) := hide (fun w' hb' => ⟨by rw [hb'.cell (p := ⟨g, 0, none⟩) hgs]; exact c0, by rw [hb'.cell (p := ⟨w.heap.size, 4, none⟩) hse]; exact e4, by rw [hb'.cell (p := ⟨gc, m, none⟩) hcgl]; exact cc0⟩)
     go_wp2_with fail
     go_region_held3 (fun w' => w'.cell? ⟨g, 0, none⟩ = some (.slice (some ⟨gi, 0, none⟩) xs.length cap) ∧ w'.cell? ⟨w.heap.size, 4, none⟩ = some (.slice (some ⟨gc, 0, none⟩) cs.length cc) ∧ w'.cell? ⟨gc, m, none⟩ = some (.string c)) (go_keep) (first | (go_at_call 78; refine (rplace_any _ xs c _ (by exact ⟨(uh HIW).1.below (by first | exact below_drewN (Below.refl _ _) 1 | exact (Below.refl _ _).drew), fun x hx => ((uh HIW).2 x hx).below (by exact (Below.refl _ _).drew)⟩) (by omega)).mono ?_; rintro e w5 ⟨rfl, hb5⟩; rw [uh HX, uh HPL]; have HB5 := hide (below_of_drew hb5); obtain ⟨z0, z1, z2⟩ := uh HCE _ (below_of_drew hb5); clear hb5) | (go_at_call 79; refine (uh HIH _ ((uh HPW).below (uh HB5)) (by omega)).mono ?_; rintro e w6 ⟨rfl, hb6⟩; have HB6 := hide (below_after (uh HB5) hb6); obtain ⟨y0, y1, y2⟩ := uh HCE _ (uh HB6); clear hb6))
     ·clear z0 z1 z2 y0 y1 y2 c0 cc0 e0 e1 e2 e3 e4 e5
      go_wp2_with fail
      go_roundg (cs.length - (m + 1))
      case measure => have := A.out.1; omega
      case rel => exact ⟨m + 1, by omega, rfl, by go_num, by rw [uh HST], below_after A.out.2 (uh HB6)⟩
    ·have hmc : ¬ (m : Int) < cs.length := by omega
     have hme : m = cs.length := by omega
     rw [hme, List.take_length] at hn7
     have HME := hide hme
     have HB2 := hide hbw
     have HBR := hide hb
     clear hme hb hbw e0 e2 e3 e5
     go_wp2_with fail
     rw [uh HME, List.take_length]
     generalize colLab its (labsP its) cs 0 = n0 at *
     obtain ⟨w2, hw2⟩ : ∃ w2, w2 = wr := ⟨_, rfl⟩
     subst hw2
     clear e1 e4
     go_loopg [6, 8] 3 (fun gk nv kv wr => ∃ k : Nat, k ≤ 3 ∧ gk = 3 - k ∧ kv = .int .i64 (k : Int) ∧ nv = .int .i64 ((dropK dr n0 k : Nat) : Int) ∧ Below w2.heap.size w2 wr)
     case atStart => exact ⟨0, by omega, rfl, rfl, rfl, Below.refl _ _⟩
     case round =>
      obtain ⟨k, hk, hg, rfl, rfl, hb⟩ := hrel
      have B : Aside (gk = 3 - k ∧ Below w2.heap.size w2 wr) := ⟨hg, hb⟩
      clear hg
      have HNr2 := (hb.block _ (lt_of_block (uh HNr))).trans (uh HNr)
      obtain ⟨e0, e1, e2, e3, e4, e5⟩ := cells6b HNr2
      have hse2 := lt_of_block HNr2
      have hdk := dropK_le (d := dr) hn7 k
      have HSU : Hid (dropK dr n0 (k + 1) = if dr / 2 ^ k % 2 = 1 ∧ dropK dr n0 k / 2 ^ k % 2 = 1 then dropK dr n0 k - 2 ^ k else dropK dr n0 k) := hide rfl
      have hd7 := hmk.2
      by_cases hlt2 : k < 3
      ·generalize dropK dr n0 k = r at *
       clear hb HNr2
       rcases (by omega : k = 0 ∨ k = 1 ∨ k = 2) with rfl | rfl | rfl
       ·have hsu : dropK dr n0 (0 + 1) = if dr / 1 % 2 = 1 ∧ r / 1 % 2 = 1 then r - 1 else r := uh HSU
        have HS2 := hide hsu
        clear hsu HSU
        go_wp2_with fail
        ·rename_i h1 h2
         go_roundg (3 - (0 + 1))
         case measure => have := B.out.1; omega
         case rel =>
          have h3 := beq_iff_eq.1 h2
          refine ⟨0 + 1, by omega, rfl, by go_num, ?_, B.out.2⟩
          rw [uh HS2, if_pos ⟨by omega, by omega⟩]
          congr 1
          omega
        ·rename_i h1 h2
         go_roundg (3 - (0 + 1))
         case measure => have := B.out.1; omega
         case rel =>
          have h3 := beq_eq_false_iff_ne.1 h2
          refine ⟨0 + 1, by omega, rfl, by go_num, ?_, B.out.2⟩
          rw [uh HS2, if_neg (by omega)]
        ·rename_i h1
         go_roundg (3 - (0 + 1))
         case measure => have := B.out.1; omega
         case rel =>
          refine ⟨0 + 1, by omega, rfl, by go_num, ?_, B.out.2⟩
          rw [uh HS2, if_neg (by omega)]
       ·have hsu : dropK dr n0 (1 + 1) = if dr / 2 % 2 = 1 ∧ r / 2 % 2 = 1 then r - 2 else r := uh HSU
        have HS2 := hide hsu
        clear hsu HSU
        go_wp2_with fail
        ·rename_i h1 h2
         go_roundg (3 - (1 + 1))
         case measure => have := B.out.1; omega
         case rel =>
          have h3 := beq_iff_eq.1 h2
          refine ⟨1 + 1, by omega, rfl, by go_num, ?_, B.out.2⟩
          rw [uh HS2, if_pos ⟨by omega, by omega⟩]
          congr 1
          omega
        ·rename_i h1 h2
         go_roundg (3 - (1 + 1))
         case measure => have := B.out.1; omega
         case rel =>
          have h3 := beq_eq_false_iff_ne.1 h2
          refine ⟨1 + 1, by omega, rfl, by go_num, ?_, B.out.2⟩
          rw [uh HS2, if_neg (by omega)]
        ·rename_i h1
         go_roundg (3 - (1 + 1))
         case measure => have := B.out.1; omega
         case rel =>
          refine ⟨1 + 1, by omega, rfl, by go_num, ?_, B.out.2⟩
          rw [uh HS2, if_neg (by omega)]
       ·have hsu : dropK dr n0 (2 + 1) = if dr / 4 % 2 = 1 ∧ r / 4 % 2 = 1 then r - 4 else r := uh HSU
        have HS2 := hide hsu
        clear hsu HSU
        go_wp2_with fail
        ·rename_i h1 h2
         go_roundg (3 - (2 + 1))
         case measure => have := B.out.1; omega
         case rel =>
          have h3 := beq_iff_eq.1 h2
          refine ⟨2 + 1, by omega, rfl, by go_num, ?_, B.out.2⟩
          rw [uh HS2, if_pos ⟨by omega, by omega⟩]
          congr 1
          omega
        ·rename_i h1 h2
         go_roundg (3 - (2 + 1))
         case measure => have := B.out.1; omega
         case rel =>
          have h3 := beq_eq_false_iff_ne.1 h2
          refine ⟨2 + 1, by omega, rfl, by go_num, ?_, B.out.2⟩
          rw [uh HS2, if_neg (by omega)]
        ·rename_i h1
         go_roundg (3 - (2 + 1))
         case measure => have := B.out.1; omega
         case rel =>
          refine ⟨2 + 1, by omega, rfl, by go_num, ?_, B.out.2⟩
          rw [uh HS2, if_neg (by omega)]
      ·have hke : k = 3 := by omega
       have hkc : ¬ (k : Int) < 3 := by omega
       have HKE := hide hke
       clear hke hb
       go_wp2_with fail
       go_ret
       refine ⟨?_, below_after (uh HB2) B.out.2⟩
       have hr := uh HRES
       rw [← uh HKE] at hr
       rw [← List.getD_eq_getElem?_getD, hr]
       rfl
  ·simp only [Bool.false_and] at k1 k3
   rw [if_neg (by simp)] at k1
   have HRES : Hid ((labsP its).getD i 0 = mk) := hide (by
    rw [uh HLA]
    rcases hcan with hc | hc
    ·have h1 := hc.cols
     have h2 := hc.drops
     simp only at h1 h2
     unfold lab1
     simp only [h1, h2]
     exact and_seven hmk.1
    ·have := hc.isT
     simp at this)
   have HB0 : Hid (∀ o, Below w.heap.size w (w.alloc o)) := hide (fun o => (Below.refl _ w).alloc (Nat.le_refl _) o)
   clear hcan
   go_enter Tryz.func79, Tryz.ntmps79
   go_wp2_with fail
   go_ret
   exact ⟨by rw [uh HRES]; rfl, uh HB0 _⟩
end Go.Proofs.YthnggjaecngbiaaGreatDoor
namespace Go.Proofs.YthnggjaecngbiaaGreatDoor
open Go.RowKit
set_option maxRecDepth 100000 in
set_option maxHeartbeats 3200000 in
theorem rmeets_any (t : PTest) (k n : Int) (w : World) (hw : WfT t) :
  Calls Tryz.prog 144 #[rtv t, .agg #[.int .i64 k, .int .i64 n]] w fun e w' => e = .returned (.bool (meetsP t k n)) ∧ Below w.heap.size w w' := by
 have hk := hw.kind
 have hn := hw.nots
 obtain ⟨t0, t1, t2, t3⟩ := t
 simp only at hk hn
 clear hw
 simp only [rtv]
 rcases (by omega : t1 = 0 ∨ t1 = 1 ∨ t1 = 2 ∨ t1 = 3 ∨ t1 = 4 ∨ t1 = 5 ∨ t1 = 6) with e | e | e | e | e | e | e
 all_goals
  subst e
  clear hk
  simp only [rkind]
  go_enter Tryz.func144, Tryz.ntmps144
  go_wp2_with fail
 all_goals
  go_ret
  refine ⟨?_, ((Below.refl _ w).alloc (Nat.le_refl _) _).alloc (by simp) _⟩
  simp_all [meetsP, bareMeets, odd_eq]
 all_goals
  by_cases ho : t0 % 2 = 1
  all_goals
   simp_all
   try (first | omega | rfl)
end Go.Proofs.YthnggjaecngbiaaGreatDoor
namespace Go.Proofs.YthnggjaecngbiaaGreatDoor
open Go.RowKit
def riv (x : LItem) : Value := .agg (ricells x.it x.cv x.rv)
theorem zip_snd {α β : Type} : ∀ {a : List α} {b : List β}, a.length = b.length → (a.zip b).map Prod.snd = b
 | [], [], _ => rfl
 | _ :: _, [], h => by simp at h
 | [], _ :: _, h => by simp at h
 | _ :: a, _ :: b, h => by simp only [List.zip_cons_cons, List.map_cons]; rw [zip_snd (by simpa using h)]
set_option maxRecDepth 100000 in
set_option maxHeartbeats 3200000 in
theorem rmet_any (x : LItem) (bv : Value) (vs : List PVal) (w : World) (hx : RItemV w x) (hl : x.it.rules.length ≤ 1000) (ht : ∀ r ∈ x.it.rules, r.tests.length = vs.length ∧ ∀ t ∈ r.tests, WfT t)
  (hvs : SlAt w 2 bv vs.length (vs.flatMap vcells)) (hvl : vs.length ≤ 1000) :
  Calls Tryz.prog 117 #[riv x, bv] w fun e w' => ∃ v, e = .returned v ∧ Below w.heap.size w w' ∧ w'.ownsRow w.heap.size 3 1 v (metP x.it.rules vs).length (nats (metP x.it.rules vs)) := by
 obtain ⟨⟨nm, bT, mk, po, cs, dr, rl⟩, cv, rv, zv⟩ := x
 obtain ⟨bo, bcap, rfl⟩ := hvs.form
 obtain ⟨co, cc, hcv⟩ := hx.2.1.form
 obtain ⟨ro, rc, hrv⟩ := hx.2.2.1.form
 obtain ⟨hz, _, hrs, hts⟩ := hx
 simp only at hcv hrv hz hrs hts hl ht
 subst hcv hrv
 simp only [riv, ricells, rmarks, rdrops]
 obtain ⟨mi, hmi⟩ : ∃ mi : Int, (if bT = true then (dr : Int) else (mk : Int)) = mi := ⟨_, rfl⟩
 obtain ⟨db, hdb⟩ : ∃ db, (bT && decide (dr ≠ 0)) = db := ⟨_, rfl⟩
 rw [hmi, hdb]
 clear hmi hdb
 rw [rcells_z] at hrs
 have hmap := zip_snd hz
 have hzl : (zv.zip rl).length = rl.length := by simp [hz]
 have HT : Hid (∀ y ∈ zv.zip rl, y.2.tests.length = vs.length ∧ ∀ t ∈ y.2.tests, WfT t) := hide (fun y hy => ht y.2 (List.of_mem_zip hy).2)
 have HTS := hide hts
 clear hts ht
 generalize zv.zip rl = zs at *
 subst hmap
 simp only [List.length_map] at hrs hl hzl ⊢
 clear hz hzl
 have HV := hide hrs
 have HW := hide hvs
 clear hrs hvs
 obtain ⟨i0, hi, hz0, hz1, hz2⟩ := info_parts Tryz.info_int
 obtain ⟨w1, hw1⟩ : ∃ w1, w1 = w.alloc (.cells #[.string nm, .int .i64 mi, .int .u8 po, .bool db, .slice co cs.length cc, .slice ro zs.length rc] 141) := ⟨_, rfl⟩
 have HB1 : Hid (Below w.heap.size w w1) := hide (by rw [hw1]; exact (Below.refl _ w).alloc (Nat.le_refl _) _)
 have HN1 : Hid (w1.heap[w.heap.size]? = some (.cells #[.string nm, .int .i64 mi, .int .u8 po, .bool db, .slice co cs.length cc, .slice ro zs.length rc] 141)) := hide (by rw [hw1]; exact alloc_last w _)
 go_enter Tryz.func117, Tryz.ntmps117
 go_wp2_with fail
 rw [← hw1]
 clear hw1
 go_loopg [5, 6] zs.length (fun g pv i wr => ∃ j : Nat, j ≤ zs.length ∧ g = zs.length - j ∧ i = .int .i64 (j : Int) ∧ Below w1.heap.size w1 wr ∧ wr.ownsRow w1.heap.size 3 1 pv (metTo (zs.map Prod.snd) vs j).length (nats (metTo (zs.map Prod.snd) vs j)))
 case atStart => exact ⟨0, by omega, rfl, rfl, Below.refl _ _, World.ownsRow_nil _ _ _ _⟩
 case round =>
  obtain ⟨j, hj, hg, rfl, hb, hown⟩ := hrel
  have hml := metTo_len (zs.map Prod.snd) vs j
  have A : Aside (gk = zs.length - j ∧ Below w1.heap.size w1 wr ∧ wr.ownsRow w1.heap.size 3 1 u5 (metTo (zs.map Prod.snd) vs j).length (nats (metTo (zs.map Prod.snd) vs j))) := ⟨hg, hb, hown⟩
  have hNr := (hb.block _ (lt_of_block (uh HN1))).trans (uh HN1)
  obtain ⟨e0, e1, e2, e3, e4, e5⟩ := cells6b hNr
  have hse := lt_of_block hNr
  clear hg hown e0 e1 e2 e3 e4
  by_cases hlt : j < zs.length
  ·have hbw := below_after (uh HB1) hb
   have hms : metTo (zs.map Prod.snd) vs (j + 1) = metTo (zs.map Prod.snd) vs j ++ (if ruleMet zs[j].2.tests vs then [j] else []) := by
    have := metTo_succ (zs.map Prod.snd) vs j (by simpa using hlt)
    simpa using this
   have HM := hide hms
   have hyl := (uh HT) zs[j] (List.getElem_mem hlt)
   have HYT := hide hyl.2
   have hjc : (j : Int) < zs.length := by omega
   have HRW : Hid (Below w.heap.size w wr) := hide hbw
   clear hms hb hbw
   go_wp2_with fail
   obtain ⟨w2, hw2⟩ : ∃ w2, w2 = wr := ⟨_, rfl⟩
   subst hw2
   go_loopg [7, 8] vs.length (fun g yv kv wx => ∃ m : Nat, m ≤ vs.length ∧ g = vs.length - m ∧ kv = .int .i64 (m : Int) ∧ yv = .bool (ruleTo zs[j].2.tests vs m) ∧ Below w2.heap.size w2 wx)
   case atStart => exact ⟨0, by omega, rfl, rfl, by simp [ruleTo], Below.refl _ _⟩
   case round =>
    obtain ⟨m, hm, hg, rfl, rfl, hb⟩ := hrel
    have B : Aside (gk = vs.length - m ∧ Below w2.heap.size w2 wr) := ⟨hg, hb⟩
    clear hg
    by_cases hmt : m < vs.length
    ·have hmy : m < zs[j].2.tests.length := by rw [hyl.1]; exact hmt
     have hbw := below_after (uh HRW) hb
     rcases (uh HV).below hbw with ⟨h0, _⟩ | ⟨g1, cap1, hv1, hc1, hm1, hgl1, hx1⟩
     ·omega
     rcases (uh HTS zs[j] (List.getElem_mem hlt)).below hbw with ⟨h0, _⟩ | ⟨g2, cap2, hv2, hc2, hm2, hgl2, hx2⟩
     ·omega
     rcases (uh HW).below hbw with ⟨h0, _⟩ | ⟨g3, cap3, hv3, hc3, hm3, hgl3, hx3⟩
     ·omega
     have key1 : ∀ i, i < 2 → wr.cell? ⟨g1, j * 2 + i, none⟩ = (zcells zs[j])[i]? := fun i hi => by
      rw [hx1 _ (by omega)]
      exact flat_at zcells 2 (fun _ => rfl) zs j i hlt hi
     have key2 : ∀ i, i < 4 → wr.cell? ⟨g2, m * 4 + i, none⟩ = (rtcells zs[j].2.tests[m])[i]? := fun i hi => by
      rw [hx2 _ (by omega)]
      exact flat_at rtcells 4 (fun _ => rfl) zs[j].2.tests m i hmy hi
     have key3 : ∀ i, i < 2 → wr.cell? ⟨g3, m * 2 + i, none⟩ = (vcells vs[m])[i]? := fun i hi => by
      rw [hx3 _ (by omega)]
      exact flat_at vcells 2 (fun _ => rfl) vs m i hmt hi
     have j0 := key1 0 (by omega)
     have k0 := key2 0 (by omega)
     have k1 := key2 1 (by omega)
     have k2 := key2 2 (by omega)
     have k3 := key2 3 (by omega)
     have l0 := key3 0 (by omega)
     have l1 := key3 1 (by omega)
     simp only [zcells, rtcells, vcells, List.getElem?_cons_zero, List.getElem?_cons_succ, Nat.add_zero] at j0 k0 k1 k2 k3 l0 l1
     have hst := ruleTo_succ zs[j].2.tests vs m hmy hmt
     have hwt := (uh HYT) zs[j].2.tests[m] (List.getElem_mem hmy)
     have e5' : wr.cell? ⟨w.heap.size, 5, none⟩ = some (.slice ro zs.length rc) := by rw [hb.cell (p := ⟨w.heap.size, 5, none⟩) hse]; exact e5
     have hse' : w.heap.size < wr.heap.size := Nat.lt_of_lt_of_le hse hb.size
     have hmc : (m : Int) < zs[j].2.tests.length := by omega
     have hmd : (m : Int) < vs.length := by omega
     have hlen : zs[j].2.tests.length ≤ 1000 := by rw [hyl.1]; exact hvl
     rw [hv2] at j0
     simp only [Value.slice.injEq] at hv1 hv3
     obtain ⟨rfl, _, rfl⟩ := hv1
     obtain ⟨rfl, _, rfl⟩ := hv3
     have HS := hide hst
     have HWT := hide hwt
     clear e5 key1 key2 key3 hx1 hx2 hx3 hc1 hc3 hm1 hm2 hm3 hb hst hwt hbw hv2
     obtain ⟨r1, hr1⟩ : ∃ r1, ruleTo zs[j].2.tests vs (m + 1) = r1 := ⟨_, rfl⟩
     have HR1 := hide hr1
     rw [hr1] at HS
     clear hr1
     generalize ruleTo zs[j].2.tests vs m = r0 at *
     generalize zs[j].2.tests[m] = t at *
     have hnt := hyl.1
     generalize zs[j].2.tests.length = nt at *
     subst hnt
     generalize vs[m] = x at *
     obtain ⟨t0, t1, t2, t3⟩ := t
     obtain ⟨x0, x1⟩ := x
     simp only at k0 k1 k2 k3 l0 l1 HS
     have HCE : Hid (∀ w', Below wr.heap.size wr w' → w'.cell? ⟨w.heap.size, 5, none⟩ = some (.slice (some ⟨g1, 0, none⟩) zs.length rc) ∧ w'.cell? ⟨g1, j * 2, none⟩ = some (.slice (some ⟨g2, 0, none⟩) vs.length cap2) ∧ (w'.cell? ⟨g2, m * 4, none⟩ = some (.int .u8 (rkind t1)) ∧ w'.cell? ⟨g2, m * 4 + 1, none⟩ = some (.int .i64 (t0 : Int)) ∧ w'.cell? ⟨g2, m * 4 + 2, none⟩ = some (.int .i64 t2) ∧ w'.cell? ⟨g2, m * 4 + 3, none⟩ = some (.int .i64 t3)) ∧ w'.cell? ⟨g3, m * 2, none⟩ = some (.int .i64 x0) ∧ w'.cell? ⟨g3, m * 2 + 1, none⟩ = some (.int .i64 x1)) := hide (fun w' hb' => ⟨(hb'.cell (p := ⟨w.heap.size, 5, none⟩) hse').trans e5', (hb'.cell (p := ⟨g1, j * 2, none⟩) hgl1).trans j0, ⟨(hb'.cell (p := ⟨g2, m * 4, none⟩) hgl2).trans k0, (hb'.cell (p := ⟨g2, m * 4 + 1, none⟩) hgl2).trans k1, (hb'.cell (p := ⟨g2, m * 4 + 2, none⟩) hgl2).trans k2, (hb'.cell (p := ⟨g2, m * 4 + 3, none⟩) hgl2).trans k3⟩, (hb'.cell (p := ⟨g3, m * 2, none⟩) hgl3).trans l0, (hb'.cell (p := ⟨g3, m * 2 + 1, none⟩) hgl3).trans l1⟩)
     go_wp2_with fail
     go_region_held3 (fun w' => w'.cell? ⟨w.heap.size, 5, none⟩ = some (.slice (some ⟨g1, 0, none⟩) zs.length rc) ∧ w'.cell? ⟨g1, j * 2, none⟩ = some (.slice (some ⟨g2, 0, none⟩) vs.length cap2) ∧ (w'.cell? ⟨g2, m * 4, none⟩ = some (.int .u8 (rkind t1)) ∧ w'.cell? ⟨g2, m * 4 + 1, none⟩ = some (.int .i64 (t0 : Int)) ∧ w'.cell? ⟨g2, m * 4 + 2, none⟩ = some (.int .i64 t2) ∧ w'.cell? ⟨g2, m * 4 + 3, none⟩ = some (.int .i64 t3)) ∧ w'.cell? ⟨g3, m * 2, none⟩ = some (.int .i64 x0) ∧ w'.cell? ⟨g3, m * 2 + 1, none⟩ = some (.int .i64 x1)) (go_keep) (first | (go_at_call 144; refine (rmeets_any ⟨t0, t1, t2, t3⟩ x0 x1 _ (uh HWT)).mono ?_; rintro e w5 ⟨rfl, hb5⟩; have HB5 := hide (below_of_drew hb5); obtain ⟨z0, z1, ⟨z2, z3, z4, z5⟩, z6, z7⟩ := uh HCE _ (below_of_drew hb5); clear hb5))
     clear z0 z1 z2 z3 z4 z5 z6 z7 e5' j0 k0 k1 k2 k3 l0 l1
     generalize meetsP ⟨t0, t1, t2, t3⟩ x0 x1 = mb at *
     have HBX := hide (below_after B.out.2 (uh HB5))
     cases r0
     all_goals
      cases mb
      all_goals
       go_wp2_with fail
       go_roundg (vs.length - (m + 1))
       case measure => have := B.out.1; omega
       case rel => exact ⟨m + 1, by omega, rfl, by go_num, by rw [uh HR1, uh HS]; rfl, uh HBX⟩
    ·have hme : m = vs.length := by omega
     subst hme
     have hrm : ruleTo zs[j].2.tests vs vs.length = ruleMet zs[j].2.tests vs := by rw [← hyl.1]; exact ruleTo_all _ _ hyl.1
     rw [hrm]
     have HM2 := uh HM
     have hown3 := owns_below A.out.2.2 B.out.2
     have hbel3 := below_after A.out.2.1 B.out.2
     have AA : Aside (Below w1.heap.size w1 wr ∧ wr.ownsRow w1.heap.size 3 1 u5 (metTo (zs.map Prod.snd) vs j).length (nats (metTo (zs.map Prod.snd) vs j))) := ⟨hbel3, hown3⟩
     have hsz := hbel3.size
     have hcl : (metTo (zs.map Prod.snd) vs j).length ≤ 1000 := by omega
     clear hb hown3 hbel3 hrm e5
     cases hR : ruleMet zs[j].2.tests vs with
     | true =>
      rw [hR, if_pos rfl] at HM2
      have HMM := hide HM2
      clear HM2 hR
      go_wp2_with (at_builtin; refine wpList_append_lies _ (by rfl) _ _ _ (by rfl) w1.heap.size 3 i0 _ 1 8 Tryz.underlying25 hi hz0 hz1 hz2 rfl (by decide) u5 (metTo (zs.map Prod.snd) vs j).length (nats (metTo (zs.map Prod.snd) vs j)) (by rfl) (AA.out.2.alloc _) ⟨wr.heap.size, 0, none⟩ 1 1 [.int .i64 (j : Int)] (by rfl) (by rfl) (World.news_of_block (cs := #[.int .i64 (j : Int)]) (t := 3) (fr := (0, 0)) (heap_alloc_new wr _)) (by simp [Value.oneCell']) (by decide) (by unfold maxLen; omega) (by omega) (by simp; omega) (wr.heap.size + 1) (by simp) ?_; intro gg cap w7 hown7 hgrow7 hat7 hlt7; have AB := hide (And.intro (below_grown (AA.out.1.alloc hsz _) hgrow7 (fun q hq => (AA.out.2.lt q hq).1)) hown7); clear hown7 hgrow7 hat7 hlt7)
      go_roundg (zs.length - (j + 1))
      case measure => have := A.out.1; omega
      case rel =>
       refine ⟨j + 1, by omega, rfl, by go_num, (uh AB).1, ?_⟩
       rw [uh HMM, nats_app, List.length_append]
       exact (uh AB).2
     | false =>
      rw [hR, if_neg (by simp), List.append_nil] at HM2
      have HMM := hide HM2
      clear HM2 hR
      go_wp2_with fail
      go_roundg (zs.length - (j + 1))
      case measure => have := A.out.1; omega
      case rel =>
       refine ⟨j + 1, by omega, rfl, by go_num, AA.out.1, ?_⟩
       rw [uh HMM]
       exact AA.out.2
  ·have hje : j = zs.length := by omega
   have HJ := hide hje
   have hjc : ¬ (j : Int) < zs.length := by omega
   clear hje hb
   go_wp2
   go_ret
   obtain ⟨_, a2, a3⟩ := A.out
   rw [uh HJ] at a3
   refine ⟨_, rfl, below_after (uh HB1) a2, ?_⟩
   unfold metP
   rw [List.length_map]
   exact owns_base a3 (uh HB1).size
end Go.Proofs.YthnggjaecngbiaaGreatDoor
namespace Go.Proofs.YthnggjaecngbiaaGreatDoor
open Go.RowKit
theorem numsOf_get {rs : List PRule} {l : List Nat} {j : Nat} (h : j < l.length) (h2 : l[j] < rs.length) : (numsOf rs l)[j]? = some rs[l[j]].num := by
 unfold numsOf
 rw [List.getElem?_map, List.getElem?_eq_getElem h]
 simp only [Option.map_some, numOf, List.getElem?_eq_getElem h2]
theorem numsOf_len (rs : List PRule) (l : List Nat) : (numsOf rs l).length = l.length := by simp [numsOf]
theorem take_fold (l : List Int) (f : Int → Int → Int) (a : Int) {j : Nat} {x : Int} (h : l[j]? = some x) : (l.take (j + 1)).foldl f a = f ((l.take j).foldl f a) x := by
 have hj : j < l.length := (List.getElem?_eq_some_iff.1 h).1
 have hx : l[j] = x := (List.getElem?_eq_some_iff.1 h).2
 rw [List.take_succ_eq_append_getElem hj, List.foldl_append, hx]
 rfl
set_option maxRecDepth 100000 in
set_option maxHeartbeats 3200000 in
theorem rvalue_any (x : LItem) (lv : Value) (l : List Nat) (w : World) (hx : RItemV w x) (hr : x.it.rules.length ≤ 1000) (hl : ∀ i ∈ l, i < x.it.rules.length) (hll : l.length ≤ 1000) (hnb : ∀ r ∈ x.it.rules, -1000000 ≤ r.num ∧ r.num ≤ 1000000) (hlv : SlAt w 1 lv l.length (nats l)) :
  Calls Tryz.prog 143 #[riv x, lv] w fun e w' => e = .returned (vv (decideP x.it.policy (numsOf x.it.rules l))) ∧ Below w.heap.size w w' := by
 obtain ⟨⟨nm, bT, mk, po, cs, dr, rl⟩, cv, rv, zv⟩ := x
 obtain ⟨lo, lc, rfl⟩ := hlv.form
 obtain ⟨co, cc, hcv⟩ := hx.2.1.form
 obtain ⟨ro, rc, hrv⟩ := hx.2.2.1.form
 obtain ⟨hz, _, hrs, _⟩ := hx
 simp only at hcv hrv hz hrs hr hl hnb
 subst hcv hrv
 simp only [riv, ricells, rmarks, rdrops]
 obtain ⟨mi, hmi⟩ : ∃ mi : Int, (if bT = true then (dr : Int) else (mk : Int)) = mi := ⟨_, rfl⟩
 obtain ⟨db, hdb⟩ : ∃ db, (bT && decide (dr ≠ 0)) = db := ⟨_, rfl⟩
 rw [hmi, hdb]
 clear hmi hdb
 have HCELL : Hid (∀ (w' : World) (j : Nat) (hj : j < l.length), Below w.heap.size w w' → ∃ g1 g2 q, ro = some ⟨g1, 0, none⟩ ∧ lo = some ⟨g2, 0, none⟩ ∧ w'.cell? ⟨g2, j, none⟩ = some (.int .i64 ((l[j] : Nat) : Int)) ∧ (l[j] < rl.length) ∧ l[j] < rc ∧ j < lc ∧ w'.cell? ⟨g1, l[j] * 2 + 1, none⟩ = some (.int .i64 q) ∧ (numsOf rl l)[j]? = some q ∧ g1 < w'.heap.size ∧ g2 < w'.heap.size ∧ -1000000 ≤ q ∧ q ≤ 1000000) := hide (fun w' j hj hb => by
  have hlj := hl l[j] (List.getElem_mem hj)
  rcases hrs.below hb with ⟨h0, _⟩ | ⟨g1, cap1, hv1, hc1, hm1, hgl1, hx1⟩
  ·omega
  rcases hlv.below hb with ⟨h0, _⟩ | ⟨g2, cap2, hv2, hc2, hm2, hgl2, hx2⟩
  ·omega
  simp only [Value.slice.injEq] at hv1 hv2
  obtain ⟨rfl, _, rfl⟩ := hv1
  obtain ⟨rfl, _, rfl⟩ := hv2
  refine ⟨g1, g2, rl[l[j]].num, rfl, rfl, ?_, hlj, by omega, by omega, ?_, numsOf_get hj hlj, hgl1, hgl2, hnb _ (List.getElem_mem hlj)⟩
  ·rw [hx2 j (by omega)]
   simp [nats, hj]
  ·rw [hx1 _ (by omega), rcells_z]
   have hzz : l[j] < (zv.zip rl).length := by simp [hz]; exact hlj
   rw [flat_at zcells 2 (fun _ => rfl) (zv.zip rl) l[j] 1 hzz (by omega)]
   simp [zcells])
 have hnl := numsOf_len rl l
 have hbd : ∀ x ∈ numsOf rl l, -1000000 ≤ x ∧ x ≤ 1000000 := fun x hx => by
  obtain ⟨j, hj, rfl⟩ := List.getElem_of_mem hx
  have hjl : j < l.length := by rw [← hnl]; exact hj
  obtain ⟨_, _, q, _, _, _, _, _, _, _, hq, _, _, hq1, hq2⟩ := uh HCELL w j hjl (Below.refl _ _)
  rw [List.getElem?_eq_getElem hj] at hq
  simp only [Option.some.injEq] at hq
  rw [hq]
  exact ⟨hq1, hq2⟩
 have HBD := hide hbd
 have HNL := hide hnl
 clear hbd hnl hlv hrs hnb hz hl
 generalize hns : numsOf rl l = ns at *
 clear hns
 obtain ⟨w1, hw1⟩ : ∃ w1, w1 = (w.alloc (.cells #[.string nm, .int .i64 mi, .int .u8 po, .bool db, .slice co cs.length cc, .slice ro rl.length rc] 141)).alloc (.cells #[.int .i64 0, .int .i64 0] 51) := ⟨_, rfl⟩
 have HB1 : Hid (Below w.heap.size w w1) := hide (by rw [hw1]; exact ((Below.refl _ w).alloc (Nat.le_refl _) _).alloc (by simp) _)
 have HN1 : Hid (w1.heap[w.heap.size]? = some (.cells #[.string nm, .int .i64 mi, .int .u8 po, .bool db, .slice co cs.length cc, .slice ro rl.length rc] 141)) := hide (by rw [hw1, Below.heap_alloc _ _ _ (by simp)]; exact alloc_last w _)
 have HR1 : Hid (w1.heap[w.heap.size + 1]? = some (.cells #[.int .i64 0, .int .i64 0] 51)) := hide (by
  have := alloc_last (w.alloc (.cells #[.string nm, .int .i64 mi, .int .u8 po, .bool db, .slice co cs.length cc, .slice ro rl.length rc] 141)) (.cells #[.int .i64 0, .int .i64 0] 51)
  rw [hw1]
  simpa using this)
 by_cases hN : po = 78
 ·subst hN
  have HE : Hid (decideP 78 ns = ⟨0, (l.length : Int)⟩) := hide (by unfold decideP; rw [if_neg (by decide), if_pos rfl, uh HNL])
  clear hw1
  go_enter Tryz.func143, Tryz.ntmps143
  go_wp2
  refine bodyPost_ret (v := vv (decideP 78 ns)) (by rw [uh HE]; simp [results, Tryz.results143, go_sem, vv]) rfl ⟨rfl, ((Below.refl _ w).alloc (Nat.le_refl _) _).alloc (by simp) _⟩
 ·have b78 : (po == 78) = false := by simpa using hN
  go_enter Tryz.func143, Tryz.ntmps143
  go_wp2_with fail
  rw [← hw1]
  clear hw1
  go_loopg [5, 6] l.length (fun gk sv iv wr => ∃ j : Nat, j ≤ l.length ∧ gk = l.length - j ∧ iv = .int .i64 (j : Int) ∧ sv = .int .i64 ((ns.take j).foldl (· + ·) 0) ∧ Below w1.heap.size w1 wr)
  case atStart => exact ⟨0, by omega, rfl, rfl, rfl, Below.refl _ _⟩
  case round =>
   obtain ⟨j, hj, hg, rfl, rfl, hb⟩ := hrel
   have A : Aside (gk = l.length - j ∧ Below w1.heap.size w1 wr) := ⟨hg, hb⟩
   clear hg
   have hNr := (hb.block _ (lt_of_block (uh HN1))).trans (uh HN1)
   obtain ⟨e0, e1, e2, e3, e4, e5⟩ := cells6b hNr
   have hse := lt_of_block hNr
   have hRr := (hb.block _ (lt_of_block (uh HR1))).trans (uh HR1)
   obtain ⟨⟨b0, b1⟩, f0, f1⟩ := box2 hRr
   have hsr := lt_of_block hRr
   have HNR := hide hRr
   have hbw := below_after (uh HB1) hb
   have HBR := hide hbw
   clear e0 e1 e3 e4 hNr hRr
   have hfb := foldl_bd (ns.take j) 0 (fun x hx => uh HBD x (List.mem_of_mem_take hx))
   have htl : (ns.take j).length ≤ 1000 := by rw [List.length_take, uh HNL]; omega
   by_cases hlt : j < l.length
   ·obtain ⟨g1, g2, q, rfl, rfl, c2, hlr, hlrc, hjlc, c1, hq, hg1, hg2, hq1, hq2⟩ := uh HCELL wr j hlt hbw
    have HQ := hide (take_fold ns (· + ·) 0 hq)
    have hjc : (j : Int) < l.length := by omega
    have hlr' : ((l[j] : Nat) : Int) < rl.length := by omega
    generalize l[j] = lj at *
    generalize (ns.take j).foldl (· + ·) 0 = s0 at *
    clear hq hb hbw b0 b1 f0 f1
    go_wp2_with fail
    go_region
    all_goals
     go_wp2
     go_roundg (l.length - (j + 1))
     case measure => have := A.out.1; omega
     case rel => exact ⟨j + 1, by omega, rfl, by go_num, by rw [uh HQ], A.out.2.drew⟩
   ·have hjc : ¬ (j : Int) < l.length := by omega
    have hje : j = l.length := by omega
    have htk : ns.take j = ns := by rw [hje, ← uh HNL, List.take_length]
    rw [htk] at hfb htl ⊢
    clear hje htk
    by_cases hS : po = 83
    ·subst hS
     have HE : Hid (decideP 83 ns = ⟨0, ns.foldl (· + ·) 0⟩) := hide (by unfold decideP; rw [if_pos rfl])
     generalize ns.foldl (· + ·) 0 = s0 at *
     clear hb hbw
     go_wp2
     obtain ⟨⟨d0, d1⟩, _⟩ := box2 (box2_set (x := .int .i64 (0)) (y := .int .i64 (s0)) (uh HNR))
     refine bodyPost_ret (v := vv (decideP 83 ns)) (by rw [uh HE]; simp [results, Tryz.results143, go_sem, d0, d1, vv]) rfl ⟨rfl, below_set2 _ _ (uh HBR) (by omega)⟩
    ·have b83 : (po == 83) = false := by simpa using hS
     generalize ns.foldl (· + ·) 0 = s0 at *
     by_cases h0 : l.length = 0
     ·have HE : Hid (decideP po ns = ⟨1, 0⟩) := hide (by
       have hn0 : ns = [] := List.eq_nil_of_length_eq_zero (by rw [uh HNL]; exact h0)
       unfold decideP
       rw [if_neg hS, if_neg hN, hn0])
      have l0 : ((l.length : Int) == 0) = true := by simp [h0]
      clear hlt hj hb hbw h0
      go_wp2
      obtain ⟨⟨d0, d1⟩, _⟩ := box2 (box2_set (x := .int .i64 (1)) (y := .int .i64 (0)) (uh HNR))
      refine bodyPost_ret (v := vv (decideP po ns)) (by rw [uh HE]; simp [results, Tryz.results143, go_sem, d0, d1, vv]) rfl ⟨rfl, below_set2 _ _ (uh HBR) (by omega)⟩
     ·have l0 : ((l.length : Int) == 0) = false := by rw [beq_eq_false_iff_ne]; omega
      obtain ⟨q0, tl, hnt⟩ : ∃ q0 tl, ns = q0 :: tl := by
       cases hq : ns with
       | nil => rw [hq] at HNL; have := uh HNL; simp at this; omega
       | cons a b => exact ⟨a, b, rfl⟩
      have hdec : decideP po ns = if po = 80 then (⟨0, tl.foldl max q0⟩ : PVal) else if po = 85 ∧ tl ≠ [] then ⟨2, 0⟩ else ⟨0, q0⟩ := by
       unfold decideP
       rw [if_neg hS, if_neg hN, hnt]
      have htl1 : tl ≠ [] ↔ 1 < l.length := by
       have := uh HNL
       rw [hnt, List.length_cons] at this
       rw [← List.length_pos_iff]
       omega
      by_cases hU : po = 85 ∧ 1 < l.length
      ·obtain ⟨rfl, hl1⟩ := hU
       have HE : Hid (decideP 85 ns = ⟨2, 0⟩) := hide (by rw [hdec, if_neg (by decide), if_pos ⟨rfl, htl1.2 hl1⟩])
       have hl1c : (1 : Int) < l.length := by omega
       clear hdec htl1 hnt hb hbw
       go_wp2
       obtain ⟨⟨d0, d1⟩, _⟩ := box2 (box2_set (x := .int .i64 (2)) (y := .int .i64 (0)) (uh HNR))
       refine bodyPost_ret (v := vv (decideP 85 ns)) (by rw [uh HE]; simp [results, Tryz.results143, go_sem, d0, d1, vv]) rfl ⟨rfl, below_set2 _ _ (uh HBR) (by omega)⟩
      ·have HE : Hid (decideP po ns = ⟨0, if po = 80 then ns.foldl max q0 else q0⟩) := hide (by
        rw [hdec]
        by_cases h80 : po = 80
        ·rw [if_pos h80, if_pos h80, hnt, List.foldl_cons, Int.max_self]
        ·rw [if_neg h80, if_neg h80, if_neg (fun h => hU ⟨h.1, htl1.1 h.2⟩)])
       obtain ⟨g1, g2, q, rfl, rfl, c2, hlr, hlrc, hjlc, c1, hq, hg1, hg2, hq1, hq2⟩ := uh HCELL wr 0 (by omega) hbw
       have hqq : q = q0 := by
        rw [hnt] at hq
        simp at hq
        exact hq.symm
       subst hqq
       have HUF : Hid (po = 85 → ¬ 1 < l.length) := hide (fun h1 h2 => hU ⟨h1, h2⟩)
       have hlr' : ((l[0]'(by omega) : Nat) : Int) < rl.length := by omega
       generalize l[0]'(by omega) = lj at *
       clear hq hdec htl1 hnt hU
       have hl00 : (0 : Int) < l.length := by omega
       have HB3 := hide hb
       clear hb hbw b0 b1 f0 f1
       clear hlt
       by_cases h85 : po = 85
       ·subst h85
        have hl1c : ¬ (1 : Int) < l.length := by have := uh HUF rfl; omega
        have HE2 : Hid (decideP 85 ns = ⟨0, q⟩) := hide (by rw [uh HE, if_neg (by decide)])
        clear HE HUF
        have HE := HE2
        go_wp2_with fail
        go_region
        all_goals
         go_wp2_with fail
         go_loopg [7, 8] l.length (fun gk nv iv wx => ∃ m : Nat, m ≤ l.length ∧ gk = l.length - m ∧ iv = .int .i64 (m : Int) ∧ nv = .int .i64 q ∧ Below w1.heap.size w1 wx)
         case atStart => exact ⟨0, by omega, rfl, rfl, rfl, (uh HB3).drew⟩
         case round =>
          clear c1 c2 e2 e5 hse hsr hg1 hg2 HNR HBR
          obtain ⟨m, hm, hg, rfl, rfl, hb⟩ := hrel
          have B : Aside (gk = l.length - m ∧ Below w1.heap.size w1 wr) := ⟨hg, hb⟩
          clear hg
          have hNr := (hb.block _ (lt_of_block (uh HN1))).trans (uh HN1)
          obtain ⟨e0, e1, e2, e3, e4, e5⟩ := cells6b hNr
          have hse := lt_of_block hNr
          have hRr := (hb.block _ (lt_of_block (uh HR1))).trans (uh HR1)
          obtain ⟨⟨b0, b1⟩, f0, f1⟩ := box2 hRr
          have hsr := lt_of_block hRr
          have HNR := hide hRr
          have hbw := below_after (uh HB1) hb
          have HBR := hide hbw
          clear e0 e1 e3 e4 hNr hRr
          by_cases hlt : m < l.length
          ·obtain ⟨g1', g2', q', hg1e, hg2e, c2, hlr, hlrc, hjlc, c1, hq, hg1, hg2, hq1, hq2⟩ := uh HCELL wr m hlt hbw
           simp only [Option.some.injEq, Addr.mk.injEq, and_true] at hg1e hg2e
           subst hg1e hg2e
           have hjc : (m : Int) < l.length := by omega
           have hlr' : ((l[m] : Nat) : Int) < rl.length := by omega
           generalize l[m] = lj at *
           clear hq hb hbw b0 b1 f0 f1
           go_wp2_with fail
           go_region
           all_goals
            go_wp2_with fail
            go_roundg (l.length - (m + 1))
            case measure => have := B.out.1; omega
            case rel => exact ⟨m + 1, by omega, rfl, by go_num, rfl, by first | exact B.out.2.drew.drew | exact B.out.2.drew | exact B.out.2⟩
          ·have hjc : ¬ (m : Int) < l.length := by omega
           have hme : m = l.length := by omega
           clear hb hbw hme
           go_wp2
           obtain ⟨⟨d0, d1⟩, _⟩ := box2 (box2_set (x := .int .i64 0) (y := .int .i64 q) (uh HNR))
           refine bodyPost_ret (v := vv (decideP 85 ns)) (by rw [uh HE]; simp [results, Tryz.results143, go_sem, d0, d1, vv]) rfl ⟨rfl, below_set2 _ _ (uh HBR) (by omega)⟩
       ·have hb85 : (po == 85) = false := by simpa using h85
        go_wp2_with fail
        go_region
        all_goals
         go_wp2_with fail
         go_loopg [7, 8] l.length (fun gk nv iv wx => ∃ m : Nat, m ≤ l.length ∧ gk = l.length - m ∧ iv = .int .i64 (m : Int) ∧ nv = .int .i64 (if po = 80 then (ns.take m).foldl max q else q) ∧ Below w1.heap.size w1 wx)
         case atStart => exact ⟨0, by omega, rfl, rfl, by simp, (uh HB3).drew⟩
         case round =>
          clear c1 c2 e2 e5 hse hsr hg1 hg2 HNR HBR
          obtain ⟨m, hm, hg, rfl, rfl, hb⟩ := hrel
          have B : Aside (gk = l.length - m ∧ Below w1.heap.size w1 wr) := ⟨hg, hb⟩
          clear hg
          have hNr := (hb.block _ (lt_of_block (uh HN1))).trans (uh HN1)
          obtain ⟨e0, e1, e2, e3, e4, e5⟩ := cells6b hNr
          have hse := lt_of_block hNr
          have hRr := (hb.block _ (lt_of_block (uh HR1))).trans (uh HR1)
          obtain ⟨⟨b0, b1⟩, f0, f1⟩ := box2 hRr
          have hsr := lt_of_block hRr
          have HNR := hide hRr
          have hbw := below_after (uh HB1) hb
          have HBR := hide hbw
          clear e0 e1 e3 e4 hNr hRr
          by_cases hlt : m < l.length
          ·obtain ⟨g1', g2', q', hg1e, hg2e, c2, hlr, hlrc, hjlc, c1, hq, hg1, hg2, hq1, hq2⟩ := uh HCELL wr m hlt hbw
           simp only [Option.some.injEq, Addr.mk.injEq, and_true] at hg1e hg2e
           subst hg1e hg2e
           have HQ := hide (take_fold ns max q hq)
           have hjc : (m : Int) < l.length := by omega
           have hlr' : ((l[m] : Nat) : Int) < rl.length := by omega
           generalize l[m] = lj at *
           clear hq hb hbw b0 b1 f0 f1
           by_cases h80 : po = 80
           ·subst h80
            rw [if_pos rfl]
            generalize (ns.take m).foldl max q = n0 at *
            by_cases hgt : n0 < q'
            ·have hmx : max n0 q' = q' := by omega
             rw [hmx] at HQ
             go_wp2_with fail
             go_region
             all_goals
              go_wp2_with fail
              go_region
              all_goals
               go_wp2_with fail
               go_roundg (l.length - (m + 1))
               case measure => have := B.out.1; omega
               case rel => exact ⟨m + 1, by omega, rfl, by go_num, by rw [if_pos trivial, uh HQ], by first | exact B.out.2.drew.drew | exact B.out.2.drew | exact B.out.2⟩
            ·have hmx : max n0 q' = n0 := by omega
             rw [hmx] at HQ
             go_wp2_with fail
             go_region
             all_goals
              go_wp2_with fail
              go_roundg (l.length - (m + 1))
              case measure => have := B.out.1; omega
              case rel => exact ⟨m + 1, by omega, rfl, by go_num, by rw [if_pos trivial, uh HQ], by first | exact B.out.2.drew.drew | exact B.out.2.drew | exact B.out.2⟩
           ·have b80 : (po == 80) = false := by simpa using h80
            rw [if_neg h80]
            go_wp2_with fail
            go_region
            all_goals
             go_wp2_with fail
             go_roundg (l.length - (m + 1))
             case measure => have := B.out.1; omega
             case rel => exact ⟨m + 1, by omega, rfl, by go_num, by rw [if_neg h80], by first | exact B.out.2.drew.drew | exact B.out.2.drew | exact B.out.2⟩
          ·have hjc : ¬ (m : Int) < l.length := by omega
           have hme : m = l.length := by omega
           rw [hme, ← uh HNL, List.take_length]
           generalize (if po = 80 then ns.foldl max q else q) = nn at *
           clear hb hbw hme
           rw [uh HNL]
           go_wp2
           obtain ⟨⟨d0, d1⟩, _⟩ := box2 (box2_set (x := .int .i64 0) (y := .int .i64 nn) (uh HNR))
           refine bodyPost_ret (v := vv (decideP po ns)) (by rw [uh HE]; simp [results, Tryz.results143, go_sem, d0, d1, vv]) rfl ⟨rfl, below_set2 _ _ (uh HBR) (by omega)⟩
end Go.Proofs.YthnggjaecngbiaaGreatDoor
namespace Go.Proofs.YthnggjaecngbiaaGreatDoor
open Go.RowKit
theorem named_place {its : List PItem} {nm : ByteArray} : (namedP its nm = true ∧ ∃ i : Nat, placeP its nm = (i : Int) ∧ i < its.length) ∨ (namedP its nm = false ∧ placeP its nm = -1) := by
 cases h : namedP its nm with
 | true => exact Or.inl ⟨rfl, placeP_in h⟩
 | false => exact Or.inr ⟨rfl, placeP_out h⟩
set_option maxRecDepth 100000 in
set_option maxHeartbeats 800000 in
theorem rLabel_any (g : Nat) (its : List PItem) (nm : ByteArray) (w : World) (h : RPlanAt w g its) :
  Calls Tryz.prog 57 #[.pointer (some ⟨g, 0, none⟩), .string nm] w fun e w' => e = .returned (.tuple #[.int .i64 (labelP its nm).1, .int .i64 (labelP its nm).2]) ∧ Below w.heap.size w w' := by
 have HP := hide h
 obtain ⟨v, xs, hN, hit, hxs, hwf, hok⟩ := h
 obtain ⟨ao, cap, rfl⟩ := hit.1.form
 have hlen : xs.length ≤ 12 := by have := hok.len; rw [← hxs] at this; simpa using this
 have c0 : w.cell? ⟨g, 0, none⟩ = some (.slice ao xs.length cap) := by simp [World.cell?, hN]
 have hgl := lt_of_block hN
 have HI := hide hit
 have HX := hide hxs
 clear hN hit hwf hok hxs
 rcases named_place (its := its) (nm := nm) with ⟨h1, i, h2, h3⟩ | ⟨h1, h2⟩
 ·have HE : Hid (labelP its nm = ((((labsP its).getD i 0 : Nat) : Int), 0)) := hide (by unfold labelP; rw [if_pos h1, h2, Int.toNat_natCast])
  have H2 := hide h2
  have hic : ¬ (i : Int) < 0 := by omega
  clear h1 h2
  go_enter Tryz.func57, Tryz.ntmps57
  go_wp2_with fail
  refine (rplace_any _ xs nm _ (uh HI) (by omega)).mono ?_
  rintro e w1 ⟨rfl, hb1⟩
  rw [uh HX, uh H2]
  have HB1 := hide hb1
  have HP1 := hide ((uh HP).below hb1)
  clear hb1
  go_wp2_with fail
  refine (rlabel_any g its i _ (uh HP1) h3).mono ?_
  rintro e w2 ⟨rfl, hb2⟩
  have HB2 := hide (below_after (uh HB1) hb2)
  clear hb2
  go_wp2_with fail
  go_ret2
  rw [uh HE]
  exact ⟨rfl, uh HB2⟩
 ·have HE : Hid (labelP its nm = (0, 4)) := hide (by unfold labelP; rw [h1]; rfl)
  have H2 := hide h2
  clear h1 h2
  go_enter Tryz.func57, Tryz.ntmps57
  go_wp2_with fail
  refine (rplace_any _ xs nm _ (uh HI) (by omega)).mono ?_
  rintro e w1 ⟨rfl, hb1⟩
  rw [uh HX, uh H2]
  have HB1 := hide hb1
  clear hb1
  go_wp2_with fail
  go_ret2
  rw [uh HE]
  exact ⟨rfl, uh HB1⟩
set_option maxRecDepth 100000 in
set_option maxHeartbeats 1600000 in
theorem rcolumns_any (g : Nat) (its : List PItem) (x : LItem) (bv : Value) (vs : List PVal) (w : World) (h : RPlanAt w g its) (hx : RItemV w x) (hc3 : x.it.cols.length ≤ 3) (hvs : SlAt w 2 bv vs.length (vs.flatMap vcells)) (_hvl : vs.length ≤ 12)
  (hah : ∀ c ∈ x.it.cols, ∃ i : Nat, placeP its c = (i : Int) ∧ i < vs.length) :
  Calls Tryz.prog 118 #[.pointer (some ⟨g, 0, none⟩), riv x, bv] w fun e w' => ∃ v, e = .returned v ∧ Below w.heap.size w w' ∧ w'.ownsRow w.heap.size 51 2 v (colVals its vs x.it).length ((colVals its vs x.it).flatMap vcells) := by
 obtain ⟨pv, xs, hN, hit, hxs, hwf, hok⟩ := h
 obtain ⟨⟨nm, bT, mk, po, cs, dr, rl⟩, cv, rv, zv⟩ := x
 obtain ⟨bo, bcap, rfl⟩ := hvs.form
 obtain ⟨po', pcap, rfl⟩ := hit.1.form
 obtain ⟨co, cc, hcv⟩ := hx.2.1.form
 obtain ⟨ro, rc, hrv⟩ := hx.2.2.1.form
 have hcs := hx.2.1
 have hlen : xs.length ≤ 12 := by have := hok.len; rw [← hxs] at this; simpa using this
 simp only at hcv hrv hcs hc3 hah
 subst hcv hrv
 simp only [riv, ricells, rmarks, rdrops]
 obtain ⟨mi, hmi⟩ : ∃ mi : Int, (if bT = true then (dr : Int) else (mk : Int)) = mi := ⟨_, rfl⟩
 obtain ⟨db, hdb⟩ : ∃ db, (bT && decide (dr ≠ 0)) = db := ⟨_, rfl⟩
 rw [hmi, hdb]
 clear hmi hdb
 have hcvl : ∀ j, j ≤ cs.length → ((cs.take j).map fun c => vs.getD (placeP its c).toNat PVal.zero).length = j := fun j hj => by simp; omega
 obtain ⟨f, hf⟩ : ∃ f, (fun c => vs.getD (placeP its c).toNat PVal.zero) = f := ⟨_, rfl⟩
 have hcvs : colVals its vs ⟨nm, bT, mk, po, cs, dr, rl⟩ = cs.map f := by rw [← hf]; rfl
 rw [hcvs]
 rw [hf] at hcvl
 have HF := hide hf
 have HN := hide hN
 have HI := hide hit
 have HX := hide hxs
 have HC := hide hcs
 have HW := hide hvs
 have HAH := hide hah
 have HCL := hide hcvl
 clear hN hit hxs hwf hok hcs hvs hah hx hf hcvs hcvl
 obtain ⟨i0, hi, hz0, hz1, hz2⟩ := info_parts Tryz.info_value
 obtain ⟨w1, hw1⟩ : ∃ w1, w1 = w.alloc (.cells #[.string nm, .int .i64 mi, .int .u8 po, .bool db, .slice co cs.length cc, .slice ro rl.length rc] 141) := ⟨_, rfl⟩
 have HB1 : Hid (Below w.heap.size w w1) := hide (by rw [hw1]; exact (Below.refl _ w).alloc (Nat.le_refl _) _)
 have HN1 : Hid (w1.heap[w.heap.size]? = some (.cells #[.string nm, .int .i64 mi, .int .u8 po, .bool db, .slice co cs.length cc, .slice ro rl.length rc] 141)) := hide (by rw [hw1]; exact alloc_last w _)
 go_enter Tryz.func118, Tryz.ntmps118
 go_wp2_with fail
 rw [← hw1]
 clear hw1
 go_loopg [7, 8] cs.length (fun gk pv i wr => ∃ j : Nat, j ≤ cs.length ∧ gk = cs.length - j ∧ i = .int .i64 (j : Int) ∧ Below w1.heap.size w1 wr ∧ wr.ownsRow w1.heap.size 51 2 pv j (((cs.take j).map f).flatMap vcells))
 case atStart => exact ⟨0, by omega, rfl, rfl, Below.refl _ _, World.ownsRow_nil _ _ _ _⟩
 case round =>
  obtain ⟨j, hj, hg, rfl, hb, hown⟩ := hrel
  have A : Aside (gk = cs.length - j ∧ Below w1.heap.size w1 wr ∧ wr.ownsRow w1.heap.size 51 2 u7 j (((cs.take j).map f).flatMap vcells)) := ⟨hg, hb, hown⟩
  have hNr := (hb.block _ (lt_of_block (uh HN1))).trans (uh HN1)
  obtain ⟨e0, e1, e2, e3, e4, e5⟩ := cells6b hNr
  have hse := lt_of_block hNr
  have hbw := below_after (uh HB1) hb
  have hsz := hb.size
  clear hg hown e0 e1 e2 e3 e5 hNr
  by_cases hlt : j < cs.length
  ·have bw := uh HB1
   have hNg := (bw.block g (lt_of_block (uh HN))).trans (uh HN)
   have c0 : w1.cell? ⟨g, 0, none⟩ = some (.slice po' xs.length pcap) := by simp [World.cell?, hNg]
   have hgs := lt_of_block hNg
   obtain ⟨gc, rfl, cc0, hgc⟩ := ((uh HC).below bw).at1 hlt
   rw [show (cs.map Value.string)[j]? = some (.string cs[j]) by simp [hlt]] at cc0
   obtain ⟨i', hpl, hi'⟩ := uh HAH cs[j] (List.getElem_mem hlt)
   have HIW : Hid (RItemsV wr (.slice po' xs.length pcap) xs) := hide ⟨(uh HI).1.below hbw, fun x hx => ((uh HI).2 x hx).below hbw⟩
   obtain ⟨g3, rfl, l0, l1, hg3⟩ := ((uh HW).below bw).at2 hi'
   have hv0 := flat_at vcells 2 (fun _ => rfl) vs i' 0 hi' (by omega)
   have hv1 := flat_at vcells 2 (fun _ => rfl) vs i' 1 hi' (by omega)
   rw [Nat.add_zero] at hv0
   rw [hv0] at l0
   rw [hv1] at l1
   simp only [vcells, List.getElem?_cons_zero, List.getElem?_cons_succ] at l0 l1
   obtain ⟨_, _, _, _, e4, _⟩ := cells6b (uh HN1)
   have hse := lt_of_block (uh HN1)
   have hfv : f cs[j] = vs[i'] := by rw [← uh HF]; simp only; rw [hpl, Int.toNat_natCast, getD_at _ _ hi']
   have HST : Hid (((cs.take (j + 1)).map f).flatMap vcells = ((cs.take j).map f).flatMap vcells ++ [.int .i64 vs[i'].kind, .int .i64 vs[i'].n]) := hide (by
    rw [List.take_succ_eq_append_getElem hlt, List.map_append, List.flatMap_append, List.map_cons, hfv]
    rfl)
   have hjc : (j : Int) < cs.length := by omega
   have hic : (i' : Int) < vs.length := by omega
   have HPL := hide hpl
   clear hfv hpl hv0 hv1
   generalize vs[i'] = y at *
   obtain ⟨y0, y1⟩ := y
   generalize cs[j] = c at *
   simp only at l0 l1 HST
   have HCE : Hid (∀ w', Below w1.heap.size w1 w' → w'.cell? ⟨g, 0, none⟩ = some (.slice po' xs.length pcap) ∧ w'.cell? ⟨w.heap.size, 4, none⟩ = some (.slice (some ⟨gc, 0, none⟩) cs.length cc) ∧ w'.cell? ⟨gc, j, none⟩ = some (.string c) ∧ w'.cell? ⟨g3, i' * 2, none⟩ = some (.int .i64 y0) ∧ w'.cell? ⟨g3, i' * 2 + 1, none⟩ = some (.int .i64 y1)) := hide (fun w' hb' => ⟨(hb'.cell (p := ⟨g, 0, none⟩) hgs).trans c0, (hb'.cell (p := ⟨w.heap.size, 4, none⟩) hse).trans e4, (hb'.cell (p := ⟨gc, j, none⟩) hgc).trans cc0, (hb'.cell (p := ⟨g3, i' * 2, none⟩) hg3).trans l0, (hb'.cell (p := ⟨g3, i' * 2 + 1, none⟩) hg3).trans l1⟩)
   have hgs' : g < wr.heap.size := by omega
   have hse' : w.heap.size < wr.heap.size := by omega
   have hgc' : gc < wr.heap.size := by omega
   have hg3' : g3 < wr.heap.size := by omega
   clear c0 e4 cc0 l0 l1 hNg
   obtain ⟨c0, e4, cc0, l0, l1⟩ := uh HCE _ hb
   clear hb hbw bw
   go_wp2_with fail
   go_region_held3 (fun w' => w'.cell? ⟨g, 0, none⟩ = some (.slice po' xs.length pcap) ∧ w'.cell? ⟨w.heap.size, 4, none⟩ = some (.slice (some ⟨gc, 0, none⟩) cs.length cc) ∧ w'.cell? ⟨gc, j, none⟩ = some (.string c) ∧ w'.cell? ⟨g3, i' * 2, none⟩ = some (.int .i64 y0) ∧ w'.cell? ⟨g3, i' * 2 + 1, none⟩ = some (.int .i64 y1)) (go_keep) (first | (go_at_call 78; refine (rplace_any _ xs c _ (by exact ⟨(uh HIW).1.below (by exact (Below.refl _ _).drew), fun x hx => ((uh HIW).2 x hx).below (by exact (Below.refl _ _).drew)⟩) (by omega)).mono ?_; rintro e w5 ⟨rfl, hb5⟩; rw [uh HX, uh HPL]; have HB5 := hide (below_after A.out.2.1 (below_of_drew hb5)); obtain ⟨z0, z1, z2, z3, z4⟩ := uh HCE _ (uh HB5); have hs5 := (below_of_drew hb5).size; have hs6 := (uh HB5).size; have HO5 := hide (owns_below A.out.2.2 (below_of_drew hb5)); clear hb5) | (refine step_append_lies _ (by rfl) _ _ _ (by rfl) w1.heap.size 51 i0 _ 2 16 Tryz.underlying47 hi hz0 hz1 hz2 rfl (by decide) u7 j (((cs.take j).map f).flatMap vcells) (by rfl) ((uh HO5).alloc _) ⟨w5.heap.size, 0, none⟩ 1 1 [.int .i64 y0, .int .i64 y1] (by rfl) (by rfl) (World.news_of_block (cs := #[.int .i64 y0, .int .i64 y1]) (t := 51) (fr := (0, 0)) (heap_alloc_new w5 _)) (by simp [Value.oneCell']) (by decide) (by unfold maxLen; omega) (by omega) (by simp; omega) (w5.heap.size + 1) (by simp) ?_; intro gg cap w7 hown7 hgrow7 hat7 hlt7; have AB := hide (And.intro (below_grown ((uh HB5).alloc hs6 _) hgrow7 (fun q hq => (A.out.2.2.lt q hq).1)) hown7); obtain ⟨x0, x1, x2, x3, x4⟩ := uh HCE _ (uh AB).1; clear hown7 hgrow7 hat7 hlt7))
   go_wp2_with fail
   go_roundg (cs.length - (j + 1))
   case measure => have := A.out.1; omega
   case rel => exact ⟨j + 1, by omega, rfl, by go_num, (uh AB).1, by rw [uh HST]; exact (uh AB).2⟩
  ·have hje : j = cs.length := by omega
   have HJ := hide hje
   have hjc : ¬ (j : Int) < cs.length := by omega
   clear hje hb
   go_wp2_with fail
   go_ret
   obtain ⟨_, a2, a3⟩ := A.out
   rw [uh HJ, List.take_length] at a3
   refine ⟨_, rfl, below_after (uh HB1) a2, ?_⟩
   exact owns_base a3 (uh HB1).size
end Go.Proofs.YthnggjaecngbiaaGreatDoor
