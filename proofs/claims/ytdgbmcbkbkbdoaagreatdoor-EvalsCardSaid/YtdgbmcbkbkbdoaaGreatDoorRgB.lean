import Derived.Test.YtdgbmcbkbkbdoaaGreatDoorRfM
import Derived.Test.YtdgbmcbkbkbdoaaGreatDoorCnA
import Derived.Test.YtdgbmcbkbkbdoaaGreatDoorFtA
import Derived.Deep.RegionHeld3
namespace Go.Proofs.YtdgbmcbkbkbdoaaGreatDoor
open Go.RowKit
theorem parse_planOf (s : ByteArray) : parseR s = planOf s := rfl
theorem parse_inr {s : ByteArray} {its : List PItem} (h : parseR s = .inr its) : planR s = .inr its ∧ s.size ≤ 1000 := by
 unfold parseR at h
 split at h
 ·cases h
 ·rename_i hs
  split at h
  ·cases h
  ·rename_i its' hp
   split at h
   ·simp only [Sum.inr.injEq] at h
    subst h
    exact ⟨hp, by omega⟩
   ·cases h
theorem can_pol {it : PItem} (h : CanI it) : (it.isT = true ∧ it.policy ≠ 0) ∨ (it.isT = false ∧ it.policy = 0) := by
 rcases h with h | h
 ·exact Or.inr ⟨h.isT, h.pol⟩
 ·refine Or.inl ⟨h.isT, ?_⟩
  have := h.pol
  unfold isPol at this
  simp only [decide_eq_true_eq] at this
  omega
def RPlanAt (w : World) (g : Nat) (its : List PItem) : Prop :=
 ∃ v xs, w.heap[g]? = some (.cells #[v] 136) ∧ RItemsV w v xs ∧ xs.map LItem.it = its ∧ (∀ x ∈ xs, WfI x.it) ∧ OkPlan its
theorem RPlanAt.below {w w' : World} {g : Nat} {its : List PItem} (h : RPlanAt w g its) (b : Below w.heap.size w w') : RPlanAt w' g its := by
 obtain ⟨v, xs, h1, h2, h3⟩ := h
 exact ⟨v, xs, (b.block g (lt_of_block h1)).trans h1, ⟨h2.1.below b, fun x hx => (h2.2 x hx).below b⟩, h3⟩
def ROwn (w : World) (g : Nat) (its : List PItem) : Prop :=
 ∃ v xs base, w.heap[g]? = some (.cells #[v] 136) ∧ RItemsAt base w v xs ∧ xs.map LItem.it = its ∧ (∀ x ∈ xs, WfI x.it) ∧ OkPlan its
theorem ROwn.plan {w : World} {g : Nat} {its : List PItem} (h : ROwn w g its) : RPlanAt w g its := by
 obtain ⟨v, xs, base, h1, h2, h3⟩ := h
 exact ⟨v, xs, h1, RItemsV.of_at h2, h3⟩
set_option maxRecDepth 100000 in
set_option maxHeartbeats 800000 in
theorem rplace_any (v : Value) (xs : List LItem) (nm : ByteArray) (w : World) (hv : RItemsV w v xs) (hl : xs.length ≤ 100000) :
  Calls Tryz.prog 67 #[v, .string nm] w fun e w' => e = .returned (.int .i64 (placeP (xs.map LItem.it) nm)) ∧ Below w.heap.size w w' := by
 obtain ⟨ao, cap, rfl⟩ := hv.1.form
 have HV := hide hv
 clear hv
 go_enter Tryz.func67, Tryz.ntmps67
 go_wp2_with fail
 go_loopg [5] xs.length (fun g i wr => ∃ j : Nat, j ≤ xs.length ∧ g = xs.length - j ∧ i = .int .i64 (j : Int) ∧ (xs.take j).any (fun x => sameName x.it.name nm) = false ∧ Below w.heap.size w wr)
 case atStart => exact ⟨0, by omega, rfl, rfl, by simp, Below.refl _ _⟩
 case round =>
  obtain ⟨j, hj, hg, rfl, hno, hb⟩ := hrel
  have A : Aside (gk = xs.length - j ∧ (xs.take j).any (fun x => sameName x.it.name nm) = false ∧ Below w.heap.size w wr) := ⟨hg, hno, hb⟩
  clear hg hno
  by_cases hlt : j < xs.length
  ·rcases (uh HV).1 with ⟨h0, _⟩ | ⟨g, cap', hv, hc, hm, hgl, hx⟩
   ·omega
   simp only [Value.slice.injEq] at hv
   obtain ⟨rfl, _, rfl⟩ := hv
   have key : ∀ i, i < 6 → wr.cell? ⟨g, j * 6 + i, none⟩ = (ritCells xs[j])[i]? := fun i hi => by
    rw [hb.cell (p := ⟨g, j * 6 + i, none⟩) hgl, hx _ (by omega)]
    exact flat_at ritCells 6 (fun _ => rfl) xs j i hlt hi
   have k0 := key 0 (by omega)
   simp only [ritCells, ricells, List.getElem?_cons_zero, Nat.add_zero] at k0
   have HT := hide (any_take_succ (fun x => sameName x.it.name nm) xs j hlt)
   have HH := hide (fun h1 h2 => placeP_hit (xs := xs) (nm := nm) hlt h1 h2)
   have hjc : (j : Int) < xs.length := by omega
   have hjcap : (j : Int) < cap := by omega
   generalize xs[j] = x at *
   clear key hx hb hc hgl
   cases hp : sameName x.it.name nm with
   | true =>
    have hp2 : (x.it.name.toList == nm.toList) = true := hp
    have HP := hide hp
    clear hp
    go_wp2_with fail
    go_ret
    refine ⟨?_, A.out.2.2⟩
    rw [uh HH A.out.2.1 (uh HP)]
    rfl
   | false =>
    have hp2 : (x.it.name.toList == nm.toList) = false := hp
    have HP := hide hp
    clear hp
    go_wp2_with fail
    go_roundg (xs.length - (j + 1))
    case measure => have := A.out.1; omega
    case rel => exact ⟨j + 1, by omega, rfl, by go_num, by rw [uh HT, A.out.2.1, uh HP]; rfl, A.out.2.2⟩
  ·have hje : j = xs.length := by omega
   have hjc : ¬ (j : Int) < xs.length := by omega
   have HE : Hid (placeP (xs.map LItem.it) nm = -1) := hide (placeP_miss (by have := A.out.2.1; rw [hje, List.take_length] at this; exact this))
   clear hje hb
   go_wp2_with fail
   go_ret
   refine ⟨?_, A.out.2.2⟩
   rw [uh HE]
   rfl
def RNewOwn (s : ByteArray) (w : World) (e : Ending) (w' : World) : Prop :=
 (∃ n ce, planOf s = .inl (n, ce) ∧ e = .returned (.tuple #[.pointer none, .int .i64 ce]) ∧ Below w.heap.size w w') ∨
 (∃ its g, planOf s = .inr its ∧ e = .returned (.tuple #[.pointer (some ⟨g, 0, none⟩), .int .i64 0]) ∧ Below w.heap.size w w' ∧ w.heap.size ≤ g ∧ ROwn w' g its)
theorem planOf_ne {s : ByteArray} {n : Nat} {e : Int} (h : planOf s = .inl (n, e)) : (e != 0) = true := by
 unfold planOf at h
 split at h
 ·simp only [Sum.inl.injEq, Prod.mk.injEq] at h
  rw [← h.2]; rfl
 ·split at h
  ·simp only [Sum.inl.injEq, Prod.mk.injEq] at h
   rw [← h.2]; rfl
  ·split at h
   ·cases h
   ·rename_i hc
    simp only [Sum.inl.injEq, Prod.mk.injEq] at h
    rw [← h.2]
    simpa using hc
set_option maxRecDepth 100000 in
set_option maxHeartbeats 800000 in
theorem rnew_own (s : ByteArray) (w : World) : Calls Tryz.prog 46 #[.string s] w (RNewOwn s w) := by
 go_enter Tryz.func46, Tryz.ntmps46
 go_wp2_with fail
 refine (rparse_any s _).mono ?_
 rintro e w1 (⟨n, en, hp, rfl, hb1⟩ | ⟨xs, v, hp, rfl, hb1, bs, hva⟩)
 ·rw [parse_planOf] at hp
  have hne := planOf_ne hp
  have HF := hide hp
  have HB := hide hb1
  clear hp hb1
  go_wp2_with fail
  go_ret2
  exact Or.inl ⟨n, en, uh HF, rfl, uh HB⟩
 ·obtain ⟨hpr, hs⟩ := parse_inr hp
  rw [parse_planOf] at hp
  have hwf := planR_wf hs hpr
  have HW : Hid (∀ x ∈ xs, WfI x.it) := hide (fun x hx => hwf.2 x.it (List.mem_map.2 ⟨x, hx, rfl⟩))
  have HOK := hide (planOf_ok hp)
  have HF := hide hp
  have hba : Below w1.heap.size w1 (w1.alloc (.cells #[v] 136)) := (Below.refl _ w1).alloc (Nat.le_refl _) _
  have HB := hide (below_after hb1 hba)
  have HVA := hide (hva.below hba)
  have HN := hide (alloc_last w1 (.cells #[v] 136))
  have HS := hide hb1.size
  obtain ⟨ao, cap, rfl⟩ := (RItemsV.of_at hva).1.form
  clear hp hb1 hpr hwf hva hba hs
  go_wp2_with fail
  go_ret2
  exact Or.inr ⟨_, w1.heap.size, uh HF, rfl, uh HB, uh HS, _, xs, bs, uh HN, uh HVA, rfl, uh HW, uh HOK⟩
end Go.Proofs.YtdgbmcbkbkbdoaaGreatDoor
namespace Go.Proofs.YtdgbmcbkbkbdoaaGreatDoor
open Go.RowKit
theorem cells6b {w : World} {N : Nat} {a b c d e f : Value} {T : TypeId} (h : w.heap[N]? = some (.cells #[a, b, c, d, e, f] T)) :
  w.cell? ⟨N, 0, none⟩ = some a ∧ w.cell? ⟨N, 1, none⟩ = some b ∧ w.cell? ⟨N, 2, none⟩ = some c ∧ w.cell? ⟨N, 3, none⟩ = some d ∧ w.cell? ⟨N, 4, none⟩ = some e ∧ w.cell? ⟨N, 5, none⟩ = some f := by
 simp [World.cell?, h]
theorem ritem_cells {w w' : World} {g : Nat} {xs : List LItem} {n cap : Nat} (h : SlAt w 6 (.slice (some ⟨g, 0, none⟩) n cap) xs.length (xs.flatMap ritCells)) (hb : Below w.heap.size w w') {j : Nat} (hj : j < xs.length) :
  w'.cell? ⟨g, j * 6, none⟩ = some (.string xs[j].it.name) ∧ w'.cell? ⟨g, j * 6 + 1, none⟩ = some (.int .i64 (rmarks xs[j].it)) ∧ w'.cell? ⟨g, j * 6 + 2, none⟩ = some (.int .u8 xs[j].it.policy) ∧ w'.cell? ⟨g, j * 6 + 3, none⟩ = some (.bool (rdrops xs[j].it)) ∧ w'.cell? ⟨g, j * 6 + 4, none⟩ = some xs[j].cv ∧ w'.cell? ⟨g, j * 6 + 5, none⟩ = some xs[j].rv := by
 rcases h with ⟨h0, _⟩ | ⟨g', cap', hv, hc, hm, hgl, hx⟩
 ·omega
 simp only [Value.slice.injEq] at hv
 obtain ⟨hg, _, _⟩ := hv
 simp only [Option.some.injEq, Addr.mk.injEq] at hg
 obtain ⟨rfl, _⟩ := hg
 have key : ∀ i, i < 6 → w'.cell? ⟨g, j * 6 + i, none⟩ = (ritCells xs[j])[i]? := fun i hi => by
  rw [hb.cell (p := ⟨g, j * 6 + i, none⟩) hgl, hx _ (by omega)]
  exact flat_at ritCells 6 (fun _ => rfl) xs j i hj hi
 exact ⟨key 0 (by omega), key 1 (by omega), key 2 (by omega), key 3 (by omega), key 4 (by omega), key 5 (by omega)⟩
theorem colLab_succ {its : List PItem} {ls : List Nat} {cs : List ByteArray} {n m : Nat} (h : m < cs.length) : colLab its ls (cs.take (m + 1)) n = colLab its ls (cs.take m) n ||| ls.getD (placeP its cs[m]).toNat 0 := by
 unfold colLab
 rw [List.take_succ_eq_append_getElem h, List.foldl_append]
 rfl
theorem colLab_congr {its : List PItem} {ls ls' : List Nat} : ∀ (cs : List ByteArray) (n : Nat), (∀ c ∈ cs, ls.getD (placeP its c).toNat 0 = ls'.getD (placeP its c).toNat 0) → colLab its ls cs n = colLab its ls' cs n
 | [], _, _ => rfl
 | c :: cs, n, h => by
  unfold colLab
  rw [List.foldl_cons, List.foldl_cons, h c (by simp)]
  exact colLab_congr cs _ (fun c hc => h c (by simp [hc]))
def dropK (d n : Nat) : Nat → Nat
 | 0 => n
 | k + 1 => if d / 2 ^ k % 2 = 1 ∧ dropK d n k / 2 ^ k % 2 = 1 then dropK d n k - 2 ^ k else dropK d n k
theorem dropK_le {d n : Nat} (h : n ≤ 7) : ∀ k, dropK d n k ≤ 7
 | 0 => h
 | k + 1 => by
  have := dropK_le (d := d) h k
  unfold dropK
  split
  ·exact Nat.le_trans (Nat.sub_le _ _) this
  ·exact this
theorem dropK_all {d n : Nat} (hd : d ≤ 7) (hn : n ≤ 7) : dropK d n 3 = n &&& (7 - d) := by
 have key : ∀ d : Fin 8, ∀ n : Fin 8, dropK d.val n.val 3 = n.val &&& (7 - d.val) := by decide
 exact key ⟨d, by omega⟩ ⟨n, by omega⟩
set_option maxRecDepth 100000 in
set_option maxHeartbeats 3200000 in
theorem rlabel_any (g : Nat) (its : List PItem) : ∀ (i : Nat) (w : World), RPlanAt w g its → i < its.length →
  Calls Tryz.prog 68 #[.pointer (some ⟨g, 0, none⟩), .int .i64 (i : Int)] w fun e w' => e = .returned (.int .i64 (((labsP its).getD i 0 : Nat) : Int)) ∧ Below w.heap.size w w' := by
 intro i
 induction i using Nat.strongRecOn with
 | _ i ih =>
  intro w h hi
  have HP := hide h
  obtain ⟨v, xs, hN, hit, hxs, hwf, hok⟩ := h
  have hlen : xs.length ≤ 12 := by have := hok.len; rw [← hxs] at this; simpa using this
  have hix : i < xs.length := by rw [← hxs] at hi; simpa using hi
  rcases hit.1 with ⟨h0, _⟩ | ⟨gi, cap, rfl, hc, hm, hgl, hx⟩
  ·omega
  obtain ⟨k0, k1, k2, k3, k4, k5⟩ := ritem_cells hit.1 (Below.refl _ w) hix
  have hxe : its[i] = xs[i].it := by simp [← hxs]
  have hla := labsP_at hi
  have hah := hok.ahead i hi
  have hcan := hok.can its[i] (List.getElem_mem hi)
  have hmk := hok.marks its[i] (List.getElem_mem hi)
  have hcl := hok.clen its[i] (List.getElem_mem hi)
  rw [hxe] at hla hah hcan hmk hcl
  have hpi := can_pol hcan
  have hxi := hit.2 xs[i] (List.getElem_mem hix)
  generalize xs[i] = x at *
  obtain ⟨co, cc, hcv⟩ := hxi.2.1.form
  obtain ⟨ro, rc, hrv⟩ := hxi.2.2.1.form
  obtain ⟨⟨nm, bT, mk, po, cs, dr, rl⟩, cv, rv0, zv⟩ := x
  simp only [rmarks, rdrops] at k0 k1 k2 k3 k4 k5 hcv hrv hla hah hmk hcl hpi
  subst hcv hrv
  have c0 : w.cell? ⟨g, 0, none⟩ = some (.slice (some ⟨gi, 0, none⟩) xs.length cap) := by simp [World.cell?, hN]
  have HN := hide hN
  have HI := hide hit
  have HXI := hide hxi
  have HAH := hide hah
  have HLA := hide hla
  have HX := hide hxs
  have hic : (i : Int) < xs.length := by omega
  clear hx hm hN hit hxi hah hla hwf hxs hxe
  rcases hpi with ⟨rfl, hp0⟩ | ⟨rfl, rfl⟩
  ·-- a table
   have hpb : (po == 0) = false := by simpa using hp0
   simp only [if_true, Bool.true_and] at k1 k3
   have hm0 : mk = 0 := by
    rcases hcan with hc | hc
    ·have := hc.isT
     simp at this
    ·exact hc.marks
   subst hm0
   have hle7 : ∀ x ∈ labsP its, x ≤ 7 := labsTo_le (fun it hi => (hok.marks it hi).1) _
   have HRES : Hid ((labsP its).getD i 0 = dropK dr (colLab its (labsP its) cs 0) 3) := hide (by
    rw [dropK_all hmk.2 (colLab_le _ _ hle7 _ _ (by omega)), uh HLA]
    unfold lab1
    simp only
    congr 1
    apply colLab_congr
    intro c hc
    obtain ⟨i', h1, h2⟩ := uh HAH c hc
    rw [h1, Int.toNat_natCast]
    exact labsTo_get (by omega) h2)
   have HOK := hide hok
   have HLE := hide hle7
   clear hcan hok hle7 HLA
   obtain ⟨bd, hbd⟩ : ∃ bd, decide (dr ≠ 0) = bd := ⟨_, rfl⟩
   rw [hbd] at k3
   clear hbd
   obtain ⟨w1, hw1⟩ : ∃ w1, w1 = w.alloc (.cells #[.string nm, .int .i64 (dr : Int), .int .u8 po, .bool bd, .slice co cs.length cc, .slice ro rl.length rc] 134) := ⟨_, rfl⟩
   have hb1 : Below w.heap.size w w1 := by rw [hw1]; exact (Below.refl _ w).alloc (Nat.le_refl _) _
   have HN1 : Hid (w1.heap[w.heap.size]? = some (.cells #[.string nm, .int .i64 (dr : Int), .int .u8 po, .bool bd, .slice co cs.length cc, .slice ro rl.length rc] 134)) := hide (by rw [hw1]; exact alloc_last w _)
   have HB1 := hide hb1
   clear hb1
   go_enter Tryz.func68, Tryz.ntmps68
   go_wp2_with fail
   rw [← hw1]
   clear hw1 k0 k1 k2 k3 k4 k5 c0
   go_loopg [6, 7] cs.length (fun gk nv kv wr => ∃ m : Nat, m ≤ cs.length ∧ gk = cs.length - m ∧ kv = .int .i64 (m : Int) ∧ nv = .int .i64 ((colLab its (labsP its) (cs.take m) 0 : Nat) : Int) ∧ Below w1.heap.size w1 wr)
   case atStart => exact ⟨0, by omega, rfl, rfl, rfl, Below.refl _ _⟩
   case round =>
    obtain ⟨m, hm, hg, rfl, rfl, hb⟩ := hrel
    have A : Aside (gk = cs.length - m ∧ Below w1.heap.size w1 wr) := ⟨hg, hb⟩
    have hbw := below_after (uh HB1) hb
    have HNr := hide ((hb.block _ (lt_of_block (uh HN1))).trans (uh HN1))
    obtain ⟨e0, e1, e2, e3, e4, e5⟩ := cells6b (uh HNr)
    have hse := lt_of_block (uh HNr)
    clear hg
    have hn7 := colLab_le its (labsP its) (uh HLE) (cs.take m) 0 (by omega)
    by_cases hlt : m < cs.length
    ·have hmc : (m : Int) < cs.length := by omega
     have hNg := (hbw.block g (lt_of_block (uh HN))).trans (uh HN)
     have c0 : wr.cell? ⟨g, 0, none⟩ = some (.slice (some ⟨gi, 0, none⟩) xs.length cap) := by simp [World.cell?, hNg]
     have hgs := lt_of_block hNg
     rcases ((uh HXI).below hbw).2.1 with ⟨h0, _⟩ | ⟨gc, ccap, hcv, _, _, hcgl, hcx⟩
     ·simp only at h0; omega
     simp only [Value.slice.injEq] at hcv
     obtain ⟨rfl, _, rfl⟩ := hcv
     have cc0 : wr.cell? ⟨gc, m, none⟩ = some (.string cs[m]) := by rw [hcx m (by simp only; omega)]; simp [hlt]
     obtain ⟨i', hpl, hi'⟩ := uh HAH cs[m] (List.getElem_mem hlt)
     have HST := hide (colLab_succ (its := its) (ls := labsP its) (n := 0) hlt)
     rw [hpl, Int.toNat_natCast] at HST
     have hl7 := getD_le7 (uh HLE) i'
     have hor := bits_or7 hn7 hl7
     have HIH := hide (ih i' hi')
     have hi2 : i' < its.length := by omega
     have HPW := hide ((uh HP).below hbw)
     have HIW : Hid (RItemsV wr (.slice (some ⟨gi, 0, none⟩) xs.length cap) xs) := hide ⟨(uh HI).1.below hbw, fun x hx => ((uh HI).2 x hx).below hbw⟩
     have HPL := hide hpl
     generalize cs[m] = c at *
     generalize (labsP its).getD i' 0 = l7 at *
     generalize colLab its (labsP its) (cs.take m) 0 = n7 at *
     clear hpl hcx hb hbw hNg hi'
     have HCE : Hid (∀ w', Below wr.heap.size wr w' → w'.cell? ⟨g, 0, none⟩ = some (.slice (some ⟨gi, 0, none⟩) xs.length cap) ∧ w'.cell? ⟨w.heap.size, 4, none⟩ = some (.slice (some ⟨gc, 0, none⟩) cs.length cc) ∧ w'.cell? ⟨gc, m, none⟩ = some (.string c)) := hide (fun w' hb' => ⟨by rw [hb'.cell (p := ⟨g, 0, none⟩) hgs]; exact c0, by rw [hb'.cell (p := ⟨w.heap.size, 4, none⟩) hse]; exact e4, by rw [hb'.cell (p := ⟨gc, m, none⟩) hcgl]; exact cc0⟩)
     go_wp2_with fail
     go_region_held3 (fun w' => w'.cell? ⟨g, 0, none⟩ = some (.slice (some ⟨gi, 0, none⟩) xs.length cap) ∧ w'.cell? ⟨w.heap.size, 4, none⟩ = some (.slice (some ⟨gc, 0, none⟩) cs.length cc) ∧ w'.cell? ⟨gc, m, none⟩ = some (.string c)) (go_keep) (first | (go_at_call 67; refine (rplace_any _ xs c _ (by exact ⟨(uh HIW).1.below (by first | exact below_drewN (Below.refl _ _) 1 | exact (Below.refl _ _).drew), fun x hx => ((uh HIW).2 x hx).below (by exact (Below.refl _ _).drew)⟩) (by omega)).mono ?_; rintro e w5 ⟨rfl, hb5⟩; rw [uh HX, uh HPL]; have HB5 := hide (below_of_drew hb5); obtain ⟨z0, z1, z2⟩ := uh HCE _ (below_of_drew hb5); clear hb5) | (go_at_call 68; refine (uh HIH _ ((uh HPW).below (uh HB5)) (by omega)).mono ?_; rintro e w6 ⟨rfl, hb6⟩; have HB6 := hide (below_after (uh HB5) hb6); obtain ⟨y0, y1, y2⟩ := uh HCE _ (uh HB6); clear hb6))
     ·clear z0 z1 z2 y0 y1 y2 c0 cc0 e0 e1 e2 e3 e4 e5
      go_wp2_with fail
      go_roundg (cs.length - (m + 1))
      case measure => have := A.out.1; omega
      case rel => exact ⟨m + 1, by omega, rfl, by go_num, by rw [uh HST], below_after A.out.2 (uh HB6)⟩
    ·have hmc : ¬ (m : Int) < cs.length := by omega
     have hme : m = cs.length := by omega
     rw [hme, List.take_length] at hn7
     have HME := hide hme
     have HB2 := hide hbw
     have HBR := hide hb
     clear hme hb hbw e0 e2 e3 e5
     go_wp2_with fail
     rw [uh HME, List.take_length]
     generalize colLab its (labsP its) cs 0 = n0 at *
     obtain ⟨w2, hw2⟩ : ∃ w2, w2 = wr := ⟨_, rfl⟩
     subst hw2
     clear e1 e4
     go_loopg [6, 8] 3 (fun gk nv kv wr => ∃ k : Nat, k ≤ 3 ∧ gk = 3 - k ∧ kv = .int .i64 (k : Int) ∧ nv = .int .i64 ((dropK dr n0 k : Nat) : Int) ∧ Below w2.heap.size w2 wr)
     case atStart => exact ⟨0, by omega, rfl, rfl, rfl, Below.refl _ _⟩
     case round =>
      obtain ⟨k, hk, hg, rfl, rfl, hb⟩ := hrel
      have B : Aside (gk = 3 - k ∧ Below w2.heap.size w2 wr) := ⟨hg, hb⟩
      clear hg
      have HNr2 := (hb.block _ (lt_of_block (uh HNr))).trans (uh HNr)
      obtain ⟨e0, e1, e2, e3, e4, e5⟩ := cells6b HNr2
      have hse2 := lt_of_block HNr2
      have hdk := dropK_le (d := dr) hn7 k
      have HSU : Hid (dropK dr n0 (k + 1) = if dr / 2 ^ k % 2 = 1 ∧ dropK dr n0 k / 2 ^ k % 2 = 1 then dropK dr n0 k - 2 ^ k else dropK dr n0 k) := hide rfl
      have hd7 := hmk.2
      by_cases hlt2 : k < 3
      ·generalize dropK dr n0 k = r at *
       clear hb HNr2
       rcases (by omega : k = 0 ∨ k = 1 ∨ k = 2) with rfl | rfl | rfl
       ·have hsu : dropK dr n0 (0 + 1) = if dr / 1 % 2 = 1 ∧ r / 1 % 2 = 1 then r - 1 else r := uh HSU
        have HS2 := hide hsu
        clear hsu HSU
        go_wp2_with fail
        ·rename_i h1 h2
         go_roundg (3 - (0 + 1))
         case measure => have := B.out.1; omega
         case rel =>
          have h3 := beq_iff_eq.1 h2
          refine ⟨0 + 1, by omega, rfl, by go_num, ?_, B.out.2⟩
          rw [uh HS2, if_pos ⟨by omega, by omega⟩]
          congr 1
          omega
        ·rename_i h1 h2
         go_roundg (3 - (0 + 1))
         case measure => have := B.out.1; omega
         case rel =>
          have h3 := beq_eq_false_iff_ne.1 h2
          refine ⟨0 + 1, by omega, rfl, by go_num, ?_, B.out.2⟩
          rw [uh HS2, if_neg (by omega)]
        ·rename_i h1
         go_roundg (3 - (0 + 1))
         case measure => have := B.out.1; omega
         case rel =>
          refine ⟨0 + 1, by omega, rfl, by go_num, ?_, B.out.2⟩
          rw [uh HS2, if_neg (by omega)]
       ·have hsu : dropK dr n0 (1 + 1) = if dr / 2 % 2 = 1 ∧ r / 2 % 2 = 1 then r - 2 else r := uh HSU
        have HS2 := hide hsu
        clear hsu HSU
        go_wp2_with fail
        ·rename_i h1 h2
         go_roundg (3 - (1 + 1))
         case measure => have := B.out.1; omega
         case rel =>
          have h3 := beq_iff_eq.1 h2
          refine ⟨1 + 1, by omega, rfl, by go_num, ?_, B.out.2⟩
          rw [uh HS2, if_pos ⟨by omega, by omega⟩]
          congr 1
          omega
        ·rename_i h1 h2
         go_roundg (3 - (1 + 1))
         case measure => have := B.out.1; omega
         case rel =>
          have h3 := beq_eq_false_iff_ne.1 h2
          refine ⟨1 + 1, by omega, rfl, by go_num, ?_, B.out.2⟩
          rw [uh HS2, if_neg (by omega)]
        ·rename_i h1
         go_roundg (3 - (1 + 1))
         case measure => have := B.out.1; omega
         case rel =>
          refine ⟨1 + 1, by omega, rfl, by go_num, ?_, B.out.2⟩
          rw [uh HS2, if_neg (by omega)]
       ·have hsu : dropK dr n0 (2 + 1) = if dr / 4 % 2 = 1 ∧ r / 4 % 2 = 1 then r - 4 else r := uh HSU
        have HS2 := hide hsu
        clear hsu HSU
        go_wp2_with fail
        ·rename_i h1 h2
         go_roundg (3 - (2 + 1))
         case measure => have := B.out.1; omega
         case rel =>
          have h3 := beq_iff_eq.1 h2
          refine ⟨2 + 1, by omega, rfl, by go_num, ?_, B.out.2⟩
          rw [uh HS2, if_pos ⟨by omega, by omega⟩]
          congr 1
          omega
        ·rename_i h1 h2
         go_roundg (3 - (2 + 1))
         case measure => have := B.out.1; omega
         case rel =>
          have h3 := beq_eq_false_iff_ne.1 h2
          refine ⟨2 + 1, by omega, rfl, by go_num, ?_, B.out.2⟩
          rw [uh HS2, if_neg (by omega)]
        ·rename_i h1
         go_roundg (3 - (2 + 1))
         case measure => have := B.out.1; omega
         case rel =>
          refine ⟨2 + 1, by omega, rfl, by go_num, ?_, B.out.2⟩
          rw [uh HS2, if_neg (by omega)]
      ·have hke : k = 3 := by omega
       have hkc : ¬ (k : Int) < 3 := by omega
       have HKE := hide hke
       clear hke hb
       go_wp2_with fail
       go_ret
       refine ⟨?_, below_after (uh HB2) B.out.2⟩
       have hr := uh HRES
       rw [← uh HKE] at hr
       rw [← List.getD_eq_getElem?_getD, hr]
       rfl
  ·simp only [Bool.false_and] at k1 k3
   rw [if_neg (by simp)] at k1
   have HRES : Hid ((labsP its).getD i 0 = mk) := hide (by
    rw [uh HLA]
    rcases hcan with hc | hc
    ·have h1 := hc.cols
     have h2 := hc.drops
     simp only at h1 h2
     unfold lab1
     simp only [h1, h2]
     exact and_seven hmk.1
    ·have := hc.isT
     simp at this)
   have HB0 : Hid (∀ o, Below w.heap.size w (w.alloc o)) := hide (fun o => (Below.refl _ w).alloc (Nat.le_refl _) o)
   clear hcan
   go_enter Tryz.func68, Tryz.ntmps68
   go_wp2_with fail
   go_ret
   exact ⟨by rw [uh HRES]; rfl, uh HB0 _⟩
end Go.Proofs.YtdgbmcbkbkbdoaaGreatDoor
