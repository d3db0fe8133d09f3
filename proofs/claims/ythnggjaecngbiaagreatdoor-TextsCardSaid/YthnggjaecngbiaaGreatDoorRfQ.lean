import Derived.Test.YthnggjaecngbiaaGreatDoorRfP
namespace Go.Proofs.YthnggjaecngbiaaGreatDoor
open Go.RowKit
theorem ritem_any (x : LItem) (w : World) (hx : RItemV w x) (hw : WfI x.it) (hp : PolI x.it) :
  Calls Tryz.prog 77 #[.agg (ricells x.it x.cv x.rv)] w fun e w' => e = .returned (.string ⟨(itemOut x.it).toArray⟩) ∧ Below w.heap.size w w' := by
 obtain ⟨it, cv, rv0, vs⟩ := x
 obtain ⟨co, cc, hcv⟩ := hx.2.1.form
 obtain ⟨ro, rc, hrv⟩ := hx.2.2.1.form
 simp only at hcv hrv hw hp
 subst hcv hrv
 rcases hp with ⟨hT, hpol⟩ | ⟨hT, hpol⟩
 ·exact ritem_table it co ro cc rc vs w hx hw hT hpol
 ·exact ritem_in it co ro cc rc w hw hT hpol
theorem parse_plain_inl {s : ByteArray} {n : Nat} {en : Int} (h : parseR s = .inl (n, en)) : plainR s = ([], n, en) := by
 unfold parseR at h
 unfold plainR
 split at h
 ·rename_i hs
  rw [if_pos hs]
  simp only [Sum.inl.injEq, Prod.mk.injEq] at h
  rw [← h.1, ← h.2]
 ·rename_i hs
  rw [if_neg hs]
  split at h
  ·rename_i p hp
   simp only [Sum.inl.injEq, Prod.mk.injEq] at h
   rw [hp, ← h.1, ← h.2]
  ·rename_i its hp
   split at h
   ·cases h
   ·rename_i hc
    simp only [Sum.inl.injEq] at h
    rw [hp]
    simp only
    rw [if_neg hc, h]
theorem parse_plain_inr {s : ByteArray} {its : List PItem} (h : parseR s = .inr its) : plainR s = (planOut its, its.length, 0) ∧ planR s = .inr its ∧ s.size ≤ 1000 := by
 unfold parseR at h
 unfold plainR
 split at h
 ·cases h
 ·rename_i hs
  rw [if_neg hs]
  split at h
  ·cases h
  ·rename_i its' hp
   split at h
   ·rename_i hc
    simp only [Sum.inr.injEq] at h
    subst h
    rw [hp]
    simp only
    rw [if_pos hc]
    exact ⟨rfl, by trivial, by omega⟩
   ·cases h
set_option maxRecDepth 100000 in
set_option maxHeartbeats 1600000 in
theorem rplain_any (s : ByteArray) (w : World) :
  Calls Tryz.prog 53 #[.string s] w fun e w' => e = .returned (.tuple #[.string ⟨(plainR s).1.toArray⟩, .int .i64 ((plainR s).2.1 : Int), .int .i64 (plainR s).2.2]) ∧ Below w.heap.size w w' := by
 go_enter Tryz.func53, Tryz.ntmps53
 go_wp2_with fail
 refine (rparse_any s _).mono ?_
 rintro e w1 (⟨n, en, hp, rfl, hb1⟩ | ⟨xs, v, hp, rfl, hb1, bs, hva⟩)
 ·have HF := hide (parse_plain_inl hp)
  have HB := hide hb1
  clear hp hb1
  go_wp2_with fail
  go_loopg [8, 9] 0 (fun _ sv i wr => sv = .string ⟨#[]⟩ ∧ i = .int .i64 0 ∧ wr = w1)
  case atStart => exact ⟨rfl, rfl, rfl⟩
  case round =>
   obtain ⟨rfl, rfl, rfl⟩ := hrel
   go_wp2_with fail
   go_ret3
   rw [uh HF]
   exact ⟨rfl, uh HB⟩
 ·obtain ⟨hpl, hpr, hs⟩ := parse_plain_inr hp
  have hv := RItemsV.of_at hva
  obtain ⟨ao, cap, rfl⟩ := hv.1.form
  have hwf := planR_wf hs hpr
  have HW : Hid (∀ x ∈ xs, WfI x.it) := hide (fun x hx => hwf.2 x.it (List.mem_map.2 ⟨x, hx, rfl⟩))
  have HPO : Hid (∀ x ∈ xs, PolI x.it) := hide (fun x hx => planR_pol hpr x.it (List.mem_map.2 ⟨x, hx, rfl⟩))
  have hl : xs.length ≤ 1000 := by have := hwf.1; simpa using this
  have HF := hide hpl
  have HB := hide hb1
  have HV := hide hv
  clear hp hb1 hv hva hpl hpr hwf
  go_wp2_with fail
  go_loopg [8, 9] xs.length (fun g sv i wr => ∃ (j : Nat) (d : ByteArray), j ≤ xs.length ∧ g = xs.length - j ∧ i = .int .i64 (j : Int) ∧ sv = .string d ∧ d.data.toList = planOut ((xs.take j).map LItem.it) ∧ Below w1.heap.size w1 wr)
  case atStart => exact ⟨0, ⟨#[]⟩, by omega, rfl, rfl, rfl, rfl, Below.refl _ _⟩
  case round =>
   obtain ⟨j, d, hj, hg, rfl, rfl, hd, hb⟩ := hrel
   have A : Aside (gk = xs.length - j ∧ d.data.toList = planOut ((xs.take j).map LItem.it) ∧ Below w1.heap.size w1 wr) := ⟨hg, hd, hb⟩
   have hds : d.size ≤ 1200000000000 := by
    have h1 := planOut_len ((xs.take j).map LItem.it) (fun i hi => by
     rw [List.mem_map] at hi
     obtain ⟨x, hx, rfl⟩ := hi
     exact HW.out x (List.mem_of_mem_take hx))
    have h2 : d.data.toList.length = d.size := by simp
    rw [← h2, hd]
    simp only [List.length_map, List.length_take] at h1
    omega
   clear hg hd
   by_cases hlt : j < xs.length
   ·rcases (uh HV).1 with ⟨h0, _⟩ | ⟨g, cap', hv, hc, hmx, hgl, hxx⟩
    ·omega
    simp only [Value.slice.injEq] at hv
    obtain ⟨rfl, _, rfl⟩ := hv
    have key : ∀ i, i < 6 → wr.cell? ⟨g, j * 6 + i, none⟩ = (ritCells xs[j])[i]? := fun i hi => by
     rw [hb.cell (p := ⟨g, j * 6 + i, none⟩) hgl, hxx _ (by omega)]
     exact flat_at ritCells 6 (fun _ => rfl) xs j i hlt hi
    have k0 := key 0 (by omega)
    have k1 := key 1 (by omega)
    have k2 := key 2 (by omega)
    have k3 := key 3 (by omega)
    have k4 := key 4 (by omega)
    have k5 := key 5 (by omega)
    simp only [ritCells, ricells, List.getElem?_cons_zero, List.getElem?_cons_succ, Nat.add_zero] at k0 k1 k2 k3 k4 k5
    have hxi := ((uh HV).2 xs[j] (List.getElem_mem hlt)).below hb
    have hwx := HW.out xs[j] (List.getElem_mem hlt)
    have hpx := HPO.out xs[j] (List.getElem_mem hlt)
    have HT : Hid (planOut ((xs.take (j + 1)).map LItem.it) = planOut ((xs.take j).map LItem.it) ++ itemOut xs[j].it) := hide (by
     rw [List.take_succ_eq_append_getElem hlt, List.map_append]
     simp [planOut])
    have hjc : (j : Int) < xs.length := by omega
    have hjcap : (j : Int) < cap := by omega
    generalize xs[j] = x at *
    obtain ⟨co, cc, hcv⟩ := hxi.2.1.form
    obtain ⟨ro, rc, hrv⟩ := hxi.2.2.1.form
    obtain ⟨it, cv, rv0, vs⟩ := x
    simp only at k0 k1 k2 k3 k4 k5 hcv hrv HT hwx hpx
    subst hcv hrv
    have hol := itemOut_len hwx
    obtain ⟨d4, hd4⟩ : ∃ d : ByteArray, (⟨(itemOut it).toArray⟩ : ByteArray) = d := ⟨_, rfl⟩
    have hs4 : d4.size ≤ 1200000000 := by rw [← hd4]; show (itemOut it).toArray.size ≤ 1200000000; rw [List.size_toArray]; exact hol
    have HD4 : Hid (d4.data.toList = itemOut it) := hide (by rw [← hd4])
    have E4 := hide hd4
    have HXI := hide hxi
    have HWX := hide hwx
    have HPX := hide hpx
    clear key hxx hb hc hmx hgl hxi hwx hpx hd4 hol
    go_wp2_with fail
    refine (ritem_any ⟨it, .slice co it.cols.length cc, .slice ro it.rules.length rc, vs⟩ _ (uh HXI) (uh HWX) (uh HPX)).mono ?_
    rintro e w5 ⟨rfl, hb5⟩
    rw [uh E4]
    have HB5 := hide (below_after A.out.2.2 hb5)
    clear hb5
    go_wp2_with fail
    go_roundg (xs.length - (j + 1))
    case measure => have := A.out.1; omega
    case rel =>
     refine ⟨j + 1, _, by omega, rfl, by go_num, rfl, ?_, uh HB5⟩
     rw [uh HT]
     simp [A.out.2.1, uh HD4]
   ·have hje : j = xs.length := by omega
    have HC : Hid (d.data.toList = planOut (xs.map LItem.it)) := hide (by have := A.out.2.1; rw [hje, List.take_length] at this; exact this)
    have hjc : ¬ (j : Int) < xs.length := by omega
    have HB4 := hide hb
    clear hje hb
    go_wp2_with fail
    go_ret3
    rw [uh HF]
    refine ⟨?_, below_after (uh HB) (uh HB4)⟩
    simp only
    rw [← uh HC]
    simp
end Go.Proofs.YthnggjaecngbiaaGreatDoor
