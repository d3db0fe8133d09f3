import Derived.Test.YthnggjaecngbiaaGreatDoorMdB
import Derived.Test.YthnggjaecngbiaaGreatDoorCkE
import Derived.Deep.AppendLies
namespace Go.Proofs.YthnggjaecngbiaaGreatDoor
open Go.RowKit

def numMeets (t : PTest) (n : Int) : Bool := (decide (t.kind = 3) && decide (n = t.low)) || (decide (t.kind = 4) && decide (t.low ≤ n) && decide (n ≤ t.high)) || (decide (t.kind = 5) && decide (n < t.low)) || (decide (t.kind = 6) && decide (t.low < n))

theorem odd_eq (n : Nat) : ((n : Int) % 2 == 1) = decide (n % 2 = 1) := by
  rw [Bool.eq_iff_iff]
  simp
  omega

set_option maxRecDepth 100000 in
set_option maxHeartbeats 1600000 in
theorem numberMeets_any (n : Int) (t0 : Nat) (t1 t2 t3 : Int) (w : World) (hk : 3 ≤ t1 ∧ t1 ≤ 6) :
    Calls Tryz.prog 201 #[.int .i64 n, .agg #[.int .i64 (t0 : Int), .int .i64 t1, .int .i64 t2, .int .i64 t3]] w fun e w' => e = .returned (.bool (numMeets ⟨t0, t1, t2, t3⟩ n)) ∧ Below w.heap.size w w' := by
  rcases (by omega : t1 = 3 ∨ t1 = 4 ∨ t1 = 5 ∨ t1 = 6) with e | e | e | e
  · subst e
    go_enter Tryz.func201, Tryz.ntmps201
    go_wp2
    go_ret
    refine ⟨ret_bool ?_, (Below.refl _ w).alloc (Nat.le_refl _) _⟩
    rw [Bool.eq_iff_iff]
    simp [numMeets]
  · subst e
    by_cases h1 : t2 ≤ n
    all_goals
      go_enter Tryz.func201, Tryz.ntmps201
      go_wp2
      go_ret
      refine ⟨ret_bool ?_, (Below.refl _ w).alloc (Nat.le_refl _) _⟩
      rw [Bool.eq_iff_iff]
      simp [numMeets]
      try omega
  · subst e
    go_enter Tryz.func201, Tryz.ntmps201
    go_wp2
    go_ret
    refine ⟨ret_bool ?_, (Below.refl _ w).alloc (Nat.le_refl _) _⟩
    rw [Bool.eq_iff_iff]
    simp [numMeets]
  · subst e
    go_enter Tryz.func201, Tryz.ntmps201
    go_wp2
    go_ret
    refine ⟨ret_bool ?_, (Below.refl _ w).alloc (Nat.le_refl _) _⟩
    rw [Bool.eq_iff_iff]
    simp [numMeets]

set_option maxRecDepth 100000 in
set_option maxHeartbeats 1600000 in
theorem meetsBare_any (k n : Int) (t0 : Nat) (t1 t2 t3 : Int) (w : World) (hk : 0 ≤ t1 ∧ t1 ≤ 6) :
    Calls Tryz.prog 186 #[.agg #[.int .i64 k, .int .i64 n], .agg #[.int .i64 (t0 : Int), .int .i64 t1, .int .i64 t2, .int .i64 t3]] w fun e w' => e = .returned (.bool (bareMeets ⟨t0, t1, t2, t3⟩ k n)) ∧ Below w.heap.size w w' := by
  by_cases h3 : 3 ≤ t1
  · have g0 : (t1 == 0) = false := by simp; omega
    have g1 : (t1 == 1) = false := by simp; omega
    have g2 : (t1 == 2) = false := by simp; omega
    have hk2 : 3 ≤ t1 ∧ t1 ≤ 6 := by omega
    by_cases h0 : k = 0
    · subst h0
      have HB : Hid (bareMeets ⟨t0, t1, t2, t3⟩ 0 n = numMeets ⟨t0, t1, t2, t3⟩ n) := hide (by
        unfold bareMeets numMeets
        simp only [beq_eq_false_iff_ne] at g0 g1 g2
        simp [g0])
      clear hk h3
      go_enter Tryz.func186, Tryz.ntmps186
      go_wp2_with fail
      refine (numberMeets_any n t0 t1 t2 t3 _ hk2).mono ?_
      rintro e w1 ⟨rfl, hb⟩
      have HB1 := hide hb
      clear hb
      go_wp2
      go_ret
      exact ⟨ret_bool (unhide HB).symm, below_after (((Below.refl _ w).alloc (Nat.le_refl _) _).alloc (by simp) _) (unhide HB1)⟩
    · have g3 : (k == 0) = false := by simpa using h0
      have HB : Hid (bareMeets ⟨t0, t1, t2, t3⟩ k n = false) := hide (by
        unfold bareMeets
        simp only [beq_eq_false_iff_ne] at g0 g1 g2
        simp [g0, g1, g2, h0])
      clear hk h3 h0
      go_enter Tryz.func186, Tryz.ntmps186
      go_wp2_with fail
      go_ret
      exact ⟨ret_bool (unhide HB).symm, ((Below.refl _ w).alloc (Nat.le_refl _) _).alloc (by simp) _⟩
  · rcases (by omega : t1 = 0 ∨ t1 = 1 ∨ t1 = 2) with e | e | e
    all_goals
      subst e
      clear hk h3
      go_enter Tryz.func186, Tryz.ntmps186
      go_wp2_with fail
      go_ret
      refine ⟨ret_bool ?_, ((Below.refl _ w).alloc (Nat.le_refl _) _).alloc (by simp) _⟩
      simp [bareMeets]
    all_goals rfl

set_option maxRecDepth 100000 in
set_option maxHeartbeats 1600000 in
theorem meets_any (k n : Int) (t0 : Nat) (t1 t2 t3 : Int) (w : World) (hk : 0 ≤ t1 ∧ t1 ≤ 6) (h0 : t0 ≤ 1000) :
    Calls Tryz.prog 162 #[.agg #[.int .i64 k, .int .i64 n], .agg #[.int .i64 (t0 : Int), .int .i64 t1, .int .i64 t2, .int .i64 t3]] w fun e w' => e = .returned (.bool (meetsP ⟨t0, t1, t2, t3⟩ k n)) ∧ Below w.heap.size w w' := by
  go_enter Tryz.func162, Tryz.ntmps162
  go_wp2_with fail
  refine (meetsBare_any k n t0 t1 t2 t3 _ hk).mono ?_
  rintro e w1 ⟨rfl, hb⟩
  have HB1 := hide hb
  clear hb
  go_wp2
  go_ret
  refine ⟨ret_bool ?_, below_after (((Below.refl _ w).alloc (Nat.le_refl _) _).alloc (by simp) _) (unhide HB1)⟩
  unfold meetsP
  rw [← odd_eq]
  rfl
end Go.Proofs.YthnggjaecngbiaaGreatDoor

namespace Go.Proofs.YthnggjaecngbiaaGreatDoor
open Go.RowKit

def ints (l : List Int) : List Value := l.map (Value.int .i64)

set_option maxRecDepth 100000 in
set_option maxHeartbeats 1600000 in
theorem indexInts_any (v : Value) (l : List Int) (w : World) (hv : SlAt w 1 v l.length (ints l)) (hl : l.length ≤ 100000) :
    Calls Tryz.prog 97 #[v, .func (.func 68) #[] #[]] w fun e w' => (∃ n : Int, e = .returned (.int .i64 n) ∧ l.any numBeyond = decide (0 ≤ n)) ∧ Below w.heap.size w w' := by
  obtain ⟨ao, cap, rfl⟩ := hv.form
  have HV := hide hv
  clear hv
  go_enter Tryz.func97, Tryz.ntmps97
  go_wp2_with fail
  go_loopg [8] l.length (fun g i wr => ∃ j : Nat, j ≤ l.length ∧ g = l.length - j ∧ i = .int .i64 (j : Int) ∧ (l.take j).any numBeyond = false ∧ Below w.heap.size w wr)
  case atStart => exact ⟨0, by omega, rfl, rfl, by simp, Below.refl _ _⟩
  case round =>
    obtain ⟨j, hj, hg, rfl, hno, hb⟩ := hrel
    have A : Aside (gk = l.length - j ∧ (l.take j).any numBeyond = false ∧ Below w.heap.size w wr) := ⟨hg, hno, hb⟩
    clear hg hno
    by_cases hlt : j < l.length
    · rcases unhide HV with ⟨h0, _⟩ | ⟨g, cap', hv, hc, hm, hgl, hx⟩
      · omega
      simp only [Value.slice.injEq] at hv
      obtain ⟨rfl, _, rfl⟩ := hv
      have k0 : wr.cell? ⟨g, j, none⟩ = some (.int .i64 l[j]) := by
        rw [hb.cell (p := ⟨g, j, none⟩) hgl, hx j (by omega)]
        simp [ints, hlt]
      have HT := hide (any_take_succ numBeyond l j hlt)
      have hjc : (j : Int) < l.length := by omega
      generalize l[j] = x at *
      clear hx hb hc hm hgl
      cases hp : numBeyond x with
      | true =>
        have HP := hide hp
        clear hp
        go_wp2_with (go_at_call 68; refine (numBeyond_any _ _).mono ?_; rintro e w1 ⟨rfl, rfl⟩; rw [unhide HP])
        go_ret
        refine ⟨⟨_, rfl, ?_⟩, A.out.2.2⟩
        rw [any_of_take (j := j + 1) (by rw [unhide HT, A.out.2.1, Bool.false_or]; exact unhide HP)]
        simp
      | false =>
        have HP := hide hp
        clear hp
        go_wp2_with (go_at_call 68; refine (numBeyond_any _ _).mono ?_; rintro e w1 ⟨rfl, rfl⟩; rw [unhide HP])
        go_roundg (l.length - (j + 1))
        case measure => have := A.out.1; omega
        case rel => exact ⟨j + 1, by omega, rfl, by go_num, by rw [unhide HT, A.out.2.1, Bool.false_or]; exact unhide HP, A.out.2.2⟩
    · have hje : j = l.length := by omega
      have HJ := hide hje
      have hjc : ¬ (j : Int) < l.length := by omega
      clear hje hb
      go_wp2
      go_ret
      refine ⟨⟨_, rfl, ?_⟩, A.out.2.2⟩
      have := A.out.2.1
      rw [unhide HJ, List.take_length] at this
      rw [this]
      rfl

set_option maxHeartbeats 400000 in
theorem containsInts_any (v : Value) (l : List Int) (w : World) (hv : SlAt w 1 v l.length (ints l)) (hl : l.length ≤ 100000) :
    Calls Tryz.prog 67 #[v, .func (.func 68) #[] #[]] w fun e w' => e = .returned (.bool (l.any numBeyond)) ∧ Below w.heap.size w w' := by
  have HV := hide hv
  clear hv
  go_enter Tryz.func67, Tryz.ntmps67
  go_wp2_with fail
  refine (indexInts_any _ _ _ (unhide HV) hl).mono ?_
  rintro e w1 ⟨⟨n, rfl, hn⟩, hb⟩
  have HB := hide hb
  have HN := hide hn
  clear hb hn
  go_wp2
  go_ret
  exact ⟨ret_bool (unhide HN).symm, unhide HB⟩
end Go.Proofs.YthnggjaecngbiaaGreatDoor

namespace Go.Proofs.YthnggjaecngbiaaGreatDoor
open Go.RowKit

theorem Tryz.info_int : (Tryz.prog.info? 3).map (fun i => (i.zero, i.size, i.bytes)) = some (some (.int .i64 0), 1, 8) := by kernel_rfl
def nats (l : List Nat) : List Value := l.map fun (i : Nat) => Value.int .i64 (i : Int)
theorem nats_app (l : List Nat) (i : Nat) : nats (l ++ [i]) = nats l ++ [.int .i64 (i : Int)] := by simp [nats]

theorem owns_below {w w' : World} {base : Nat} {e : TypeId} {size : Nat} {v : Value} {n : Nat} {xs : List Value} (h : w.ownsRow base e size v n xs) (g : Below w.heap.size w w') : w'.ownsRow base e size v n xs :=
  owns_keep h (fun gg _ _ hg => g.block gg (lt_of_block hg))
theorem below_grown {w w' w'' : World} {row : Option Nat} (h : Below w.heap.size w w') (g : w'.grownBy w'' row) (hr : ∀ j, row = some j → w.heap.size ≤ j) : Below w.heap.size w w'' :=
  ⟨g.os.trans h.os, g.tape.trans h.tape, g.output.trans h.output, Nat.le_trans h.size g.size, fun j hj => (g.block j (Nat.lt_of_lt_of_le hj h.size) (fun e => by have := hr j e.symm; omega)).trans (h.block j hj)⟩

theorem ruleTo_succ (ts : List PTest) (vs : List PVal) (j : Nat) (h1 : j < ts.length) (h2 : j < vs.length) : ruleTo ts vs (j + 1) = (ruleTo ts vs j && meetsP ts[j] vs[j].kind vs[j].n) := by
  unfold ruleTo
  rw [List.take_succ_eq_append_getElem (by simp; omega), List.all_append]
  simp
theorem ruleTo_all (ts : List PTest) (vs : List PVal) (h : ts.length = vs.length) : ruleTo ts vs ts.length = ruleMet ts vs := by
  unfold ruleTo ruleMet
  rw [List.take_of_length_le (by simp; omega)]
theorem ruleTo_not {ts : List PTest} {vs : List PVal} {j : Nat} (h : ruleTo ts vs j = false) : ruleMet ts vs = false := by
  unfold ruleTo at h
  unfold ruleMet
  rw [List.all_eq_false] at h ⊢
  obtain ⟨x, hx, hp⟩ := h
  exact ⟨x, List.mem_of_mem_take hx, hp⟩

set_option maxRecDepth 100000 in
set_option maxHeartbeats 3200000 in
theorem met_any (rv vv : Value) (zs : List (Value × PRule)) (vs : List PVal) (w : World) (hv : SlAt w 2 rv zs.length (zs.flatMap zcells)) (ht : ∀ y ∈ zs, SlAt w 4 y.1 y.2.tests.length (tsCells y.2.tests) ∧ y.2.tests.length = vs.length ∧ ∀ t ∈ y.2.tests, WfT t) (hl : zs.length ≤ 1000) (hvs : SlAt w 2 vv vs.length (vs.flatMap vcells)) (hvl : vs.length ≤ 1000) :
    Calls Tryz.prog 131 #[rv, vv] w fun e w' => ∃ v, e = .returned v ∧ Below w.heap.size w w' ∧ w'.ownsRow w.heap.size 3 1 v (metP (zs.map Prod.snd) vs).length (nats (metP (zs.map Prod.snd) vs)) := by
  obtain ⟨ao, cap, rfl⟩ := hv.form
  obtain ⟨bo, bcap, rfl⟩ := hvs.form
  have HV := hide hv
  have HW := hide hvs
  have HT := hide ht
  clear hv hvs ht
  obtain ⟨i0, hi, hz0, hz1, hz2⟩ := info_parts Tryz.info_int
  go_enter Tryz.func131, Tryz.ntmps131
  go_wp2
  go_step3
  go_wp2
  go_step3
  go_wp2_with fail
  go_loopg [5, 12] zs.length (fun g pv i wr => ∃ j : Nat, j ≤ zs.length ∧ g = zs.length - j ∧ i = .int .i64 (j : Int) ∧ Below w.heap.size w wr ∧ wr.ownsRow w.heap.size 3 1 pv (metTo (zs.map Prod.snd) vs j).length (nats (metTo (zs.map Prod.snd) vs j)))
  case atStart => exact ⟨0, by omega, rfl, rfl, Below.refl _ _, World.ownsRow_nil _ _ _ _⟩
  case round =>
    obtain ⟨j, hj, hg, rfl, hb, hown⟩ := hrel
    have hml := metTo_len (zs.map Prod.snd) vs j
    have A : Aside (gk = zs.length - j ∧ Below w.heap.size w wr ∧ wr.ownsRow w.heap.size 3 1 u5 (metTo (zs.map Prod.snd) vs j).length (nats (metTo (zs.map Prod.snd) vs j))) := ⟨hg, hb, hown⟩
    clear hg hown
    by_cases hlt : j < zs.length
    · rcases unhide HV with ⟨h0, _⟩ | ⟨g, cap', hv, hc, hm, hgl, hx⟩
      · omega
      simp only [Value.slice.injEq] at hv
      obtain ⟨rfl, _, rfl⟩ := hv
      have key : ∀ i, i < 2 → wr.cell? ⟨g, j * 2 + i, none⟩ = (zcells zs[j])[i]? := fun i hi => by
        rw [hb.cell (p := ⟨g, j * 2 + i, none⟩) hgl, hx _ (by omega)]
        exact flat_at zcells 2 (fun _ => rfl) zs j i hlt hi
      have k0 := key 0 (by omega)
      have k1 := key 1 (by omega)
      simp only [zcells, List.getElem?_cons_zero, List.getElem?_cons_succ, Nat.add_zero] at k0 k1
      have hjc : (j : Int) < zs.length := by omega
      have hy := unhide HT zs[j] (List.getElem_mem hlt)
      have hms : metTo (zs.map Prod.snd) vs (j + 1) = metTo (zs.map Prod.snd) vs j ++ (if ruleMet zs[j].2.tests vs then [j] else []) := by
        have := metTo_succ (zs.map Prod.snd) vs j (by simpa using hlt)
        simpa using this
      generalize zs[j] = y at *
      obtain ⟨yv, yts, ynum⟩ := y
      simp only at k0 k1 hy hms
      obtain ⟨yo, yc, hyv⟩ := hy.1.form
      subst hyv
      have HL := hide hy.2.1
      have HY := hide hy
      have HM := hide hms
      clear key hx hb hc hm hgl hy hms
      have HB1 : Hid (Below wr.heap.size wr (wr.alloc (.cells #[.slice yo yts.length yc, .int .i64 ynum] 160))) := hide ((Below.refl _ wr).alloc (Nat.le_refl _) _)
      go_wp2_with fail
      obtain ⟨w1, hw1⟩ : ∃ w1, w1 = wr.alloc (.cells #[.slice yo yts.length yc, .int .i64 ynum] 160) := ⟨_, rfl⟩
      rw [← hw1] at HB1 ⊢
      clear hw1 k0 k1
      go_loopg [20] yts.length (fun g i wx => ∃ m : Nat, m ≤ yts.length ∧ g = yts.length - m ∧ i = .int .i64 (m : Int) ∧ ruleTo yts vs m = true ∧ Below w1.heap.size w1 wx)
      case atStart => exact ⟨0, by omega, rfl, rfl, by simp [ruleTo], Below.refl _ _⟩
      case round =>
        obtain ⟨m, hm, hg, rfl, hno, hb⟩ := hrel
        have B : Aside (gk = yts.length - m ∧ ruleTo yts vs m = true ∧ Below w1.heap.size w1 wr) := ⟨hg, hno, hb⟩
        clear hg hno
        by_cases hmt : m < yts.length
        · have hmv : m < vs.length := by have := unhide HL; omega
          rcases (unhide HY).1.below (below_after A.out.2.1 (unhide HB1)) with ⟨h0, _⟩ | ⟨g2, cap2, hv2, hc2, hm2, hgl2, hx2⟩
          · omega
          rcases ((unhide HW).below (below_after A.out.2.1 (unhide HB1))) with ⟨h0, _⟩ | ⟨g3, cap3, hv3, hc3, hm3, hgl3, hx3⟩
          · omega
          simp only [Value.slice.injEq] at hv2 hv3
          obtain ⟨rfl, _, rfl⟩ := hv2
          obtain ⟨rfl, _, rfl⟩ := hv3
          have key : ∀ i, i < 4 → wr.cell? ⟨g2, m * 4 + i, none⟩ = (tcells yts[m])[i]? := fun i hi => by
            rw [hb.cell (p := ⟨g2, m * 4 + i, none⟩) hgl2, hx2 _ (by omega)]
            exact flat_at tcells 4 (fun _ => rfl) yts m i hmt hi
          have key2 : ∀ i, i < 2 → wr.cell? ⟨g3, m * 2 + i, none⟩ = (vcells vs[m])[i]? := fun i hi => by
            rw [hb.cell (p := ⟨g3, m * 2 + i, none⟩) hgl3, hx3 _ (by omega)]
            exact flat_at vcells 2 (fun _ => rfl) vs m i hmv hi
          have k0 := key 0 (by omega)
          have k1 := key 1 (by omega)
          have k2 := key 2 (by omega)
          have k3 := key 3 (by omega)
          have l0 := key2 0 (by omega)
          have l1 := key2 1 (by omega)
          simp only [tcells, vcells, List.getElem?_cons_zero, List.getElem?_cons_succ, Nat.add_zero] at k0 k1 k2 k3 l0 l1
          have hst := ruleTo_succ yts vs m hmt hmv
          have hwt := (unhide HY).2.2 yts[m] (List.getElem_mem hmt)
          have hmc : (m : Int) < yts.length := by omega
          have hmd : (m : Int) < vs.length := by omega
          generalize yts[m] = t at *
          generalize vs[m] = x at *
          obtain ⟨t0, t1, t2, t3⟩ := t
          obtain ⟨x0, x1⟩ := x
          simp only at k0 k1 k2 k3 l0 l1 hst
          have hk := hwt.kind
          have hn := hwt.nots
          simp only at hk hn
          have HS := hide hst
          have l0' : (wr.alloc (.cells #[.int .i64 (t0 : Int), .int .i64 t1, .int .i64 t2, .int .i64 t3] 193)).cell? ⟨g3, m * 2, none⟩ = some (.int .i64 x0) := by
            rw [← l0]
            exact ((Below.refl _ wr).alloc (Nat.le_refl _) _).cell (p := ⟨g3, m * 2, none⟩) (Nat.lt_of_lt_of_le hgl3 hb.size)
          have l1' : (wr.alloc (.cells #[.int .i64 (t0 : Int), .int .i64 t1, .int .i64 t2, .int .i64 t3] 193)).cell? ⟨g3, m * 2 + 1, none⟩ = some (.int .i64 x1) := by
            rw [← l1]
            exact ((Below.refl _ wr).alloc (Nat.le_refl _) _).cell (p := ⟨g3, m * 2 + 1, none⟩) (Nat.lt_of_lt_of_le hgl3 hb.size)
          have HB2 := hide (hb.alloc hb.size (.cells #[.int .i64 (t0 : Int), .int .i64 t1, .int .i64 t2, .int .i64 t3] 193))
          clear key key2 hx2 hx3 hc2 hc3 hm2 hm3 hb hst hwt l0 l1
          go_wp2_with fail
          cases hp : meetsP ⟨t0, t1, t2, t3⟩ x0 x1 with
          | true =>
            have HP := hide hp
            clear hp
            go_region_with (go_at_call 162; refine (meets_any x0 x1 t0 t1 t2 t3 _ hk hn).mono ?_; rintro e w2 ⟨rfl, hb2⟩; rw [unhide HP]; have HB3 := hide (below_after (unhide HB2) (below_of_drew hb2)); clear hb2)
            all_goals
              go_wp2
              go_roundg (yts.length - (m + 1))
              case measure => have := B.out.1; omega
              case rel => exact ⟨m + 1, by omega, rfl, by go_num, by rw [unhide HS, B.out.2.1, unhide HP]; rfl, unhide HB3⟩
          | false =>
            have HP := hide hp
            clear hp
            go_region_with (go_at_call 162; refine (meets_any x0 x1 t0 t1 t2 t3 _ hk hn).mono ?_; rintro e w2 ⟨rfl, hb2⟩; rw [unhide HP]; have HB3 := hide (below_after (unhide HB2) (below_of_drew hb2)); clear hb2)
            all_goals
              have HN : Hid (ruleMet yts vs = false) := hide (ruleTo_not (j := m + 1) (by rw [unhide HS, B.out.2.1, unhide HP]; rfl))
              have HB4 := hide (below_after (unhide HB1) (unhide HB3))
              go_wp2
              go_roundg (zs.length - (j + 1))
              case measure => have := A.out.1; omega
              case rel =>
                refine ⟨j + 1, by omega, rfl, by go_num, below_after A.out.2.1 (unhide HB4), ?_⟩
                rw [unhide HM, unhide HN, if_neg (by simp), List.append_nil]
                exact owns_below A.out.2.2 (unhide HB4)
        · have hme : m = yts.length := by omega
          have HR : Hid (ruleMet yts vs = true) := hide (by rw [← ruleTo_all yts vs (unhide HL), ← hme]; exact B.out.2.1)
          have hmc : ¬ (m : Int) < yts.length := by omega
          have hown3 := owns_below A.out.2.2 (below_after (unhide HB1) B.out.2.2)
          have hbel3 := below_after A.out.2.1 (below_after (unhide HB1) B.out.2.2)
          have AA : Aside (Below w.heap.size w wr ∧ wr.ownsRow w.heap.size 3 1 u5 (metTo (zs.map Prod.snd) vs j).length (nats (metTo (zs.map Prod.snd) vs j))) := ⟨hbel3, hown3⟩
          have hsz := hbel3.size
          clear hme hb hown3 hbel3
          have hcl : (metTo (zs.map Prod.snd) vs j).length ≤ 1000 := by omega
          go_wp2_with (at_builtin; refine wpList_append_lies _ (by rfl) _ _ _ (by rfl) w.heap.size 3 i0 _ 1 8 Tryz.underlying25 hi hz0 hz1 hz2 rfl (by decide) u5 (metTo (zs.map Prod.snd) vs j).length (nats (metTo (zs.map Prod.snd) vs j)) (by rfl) (AA.out.2.alloc _) ⟨wr.heap.size, 0, none⟩ 1 1 [.int .i64 (j : Int)] (by rfl) (by rfl) (World.news_of_block (cs := #[.int .i64 (j : Int)]) (t := 3) (fr := (0, 0)) (heap_alloc_new wr _)) (by simp [Value.oneCell']) (by decide) (by unfold maxLen; omega) (by omega) (by simp; omega) (wr.heap.size + 1) (by simp) ?_; intro gg cap w7 hown7 hgrow7 hat7 hlt7; have AB := hide (And.intro (below_grown (AA.out.1.alloc hsz _) hgrow7 (fun q hq => (AA.out.2.lt q hq).1)) hown7); clear hown7 hgrow7 hat7 hlt7)
          go_roundg (zs.length - (j + 1))
          case measure => have := A.out.1; omega
          case rel =>
            refine ⟨j + 1, by omega, rfl, by go_num, (unhide AB).1, ?_⟩
            rw [unhide HM, unhide HR, if_pos rfl, nats_app, List.length_append]
            exact (unhide AB).2
    · have hje : j = zs.length := by omega
      have HJ := hide hje
      have hjc : ¬ (j : Int) < zs.length := by omega
      clear hje hb
      go_wp2
      go_ret
      obtain ⟨_, a2, a3⟩ := A.out
      rw [unhide HJ] at a3
      refine ⟨_, rfl, a2, ?_⟩
      unfold metP
      simpa using a3
end Go.Proofs.YthnggjaecngbiaaGreatDoor

