import Derived.Test.YthnggjaecngbiaaGreatDoorCkB
namespace Go.Proofs.YthnggjaecngbiaaGreatDoor
open Go.RowKit

def checkItemP (it : PItem) (ahead : List PItem) : Int :=
  if namedP ahead it.name then 3
  else if it.cols.any (fun c => !namedP ahead c) then 4
  else if it.rules.any (fun r => decide (r.tests.length ≠ it.cols.length)) then 5
  else 0

set_option maxRecDepth 100000 in
set_option maxHeartbeats 3200000 in
theorem checkItem_any (x : LItem) (v : Value) (xs : List LItem) (w : World) (hx : ItemV w x) (hsx : SmallI x.it) (hv : ItemsV w v xs) (hl : xs.length ≤ 100000) :
    Calls Tryz.prog 92 #[iv x.it x.cv x.rv, v] w fun e w' => e = .returned (.int .i64 (checkItemP x.it (xs.map LItem.it))) ∧ Below w.heap.size w w' := by
  obtain ⟨it, cv, rv0, vs⟩ := x
  obtain ⟨co, cc, hcv⟩ := hx.1.form
  obtain ⟨ro, rc, hrv⟩ := hx.2.2.1.form
  simp only at hcv hrv
  subst hcv hrv
  obtain ⟨hl1, hl2, hl3⟩ := hsx
  simp only at hl1 hl2 hl3
  have HL3 := hide hl3
  clear hl3
  have hb0 : Below w.heap.size w (w.alloc (.cells (icells it (.slice co it.cols.length cc) (.slice ro it.rules.length rc)) 119)) := (Below.refl _ w).alloc (Nat.le_refl _) _
  have HV := hide (hv.below hb0)
  have HX := hide (hx.below hb0)
  have hr0 := alloc_last w (.cells (icells it (.slice co it.cols.length cc) (.slice ro it.rules.length rc)) 119)
  have HB0 := hide hb0
  have HR0 := hide hr0
  have hsz : w.heap.size < (w.alloc (.cells (icells it (.slice co it.cols.length cc) (.slice ro it.rules.length rc)) 119)).heap.size := by simp
  have HSZ := hide hsz
  clear hv hx hb0 hr0 hsz
  simp only [iv]
  cases h1 : namedP (xs.map LItem.it) it.name with
  | true =>
    have HF : Hid (checkItemP it (xs.map LItem.it) = 3) := hide (by unfold checkItemP; rw [if_pos h1])
    obtain ⟨pn, hpn, hpl⟩ := placeP_in h1
    have hp0 : (0 : Int) ≤ (pn : Int) := by omega
    have H1 := hide hpn
    clear h1 hpn hpl
    simp only [icells] at HV HX HB0 HR0 HSZ ⊢
    go_enter Tryz.func92, Tryz.ntmps92
    go_wp2_with (go_at_call 46; refine (place_any _ xs _ _ (by exact unhide HV) hl).mono ?_; rintro e w1 ⟨rfl, hb⟩; rw [unhide H1]; have HB := hide hb; clear hb)
    go_ret
    exact ⟨by rw [unhide HF]; rfl, below_after (unhide HB0) (unhide HB)⟩
  | false =>
    have H1 := hide h1
    have HPL := hide (placeP_out h1)
    clear h1
    simp only [icells] at HV HX HB0 HR0 HSZ ⊢
    go_enter Tryz.func92, Tryz.ntmps92
    go_wp2_with fail
    refine (place_any _ xs _ _ (unhide HV) hl).mono ?_
    rintro e w1 ⟨rfl, hb⟩
    rw [unhide HPL]
    have hr1 := (hb.block w.heap.size (unhide HSZ)).trans (unhide HR0)
    have HV1 := hide ((unhide HV).below hb)
    have HX1 := hide ((unhide HX).below hb)
    have HB1 := hide (below_after (unhide HB0) hb)
    have HR1 := hide hr1
    have hs1 : w.heap.size < w1.heap.size := lt_of_block hr1
    obtain ⟨⟨c0, c1, c2, c3, c4, c5, c6⟩, f0, f1, f2, f3, f4, f5, f6⟩ := cells7 hr1
    clear hb hr1 HV HX HB0 HR0 HSZ
    go_wp2_with fail
    clear c0 c1 c2 c3 c4 c5 c6 f0 f1 f2 f3 f4 f5 f6
    go_loopg [17] it.cols.length (fun g i wr => ∃ j : Nat, j ≤ it.cols.length ∧ g = it.cols.length - j ∧ i = .int .i64 (j : Int) ∧ (it.cols.take j).any (fun c => !namedP (xs.map LItem.it) c) = false ∧ Below w1.heap.size w1 wr)
    case atStart => exact ⟨0, by omega, rfl, rfl, by simp, Below.refl _ _⟩
    case round =>
      obtain ⟨j, hj, hg, rfl, hno, hb⟩ := hrel
      have A : Aside (gk = it.cols.length - j ∧ (it.cols.take j).any (fun c => !namedP (xs.map LItem.it) c) = false ∧ Below w1.heap.size w1 wr) := ⟨hg, hno, hb⟩
      clear hg hno
      by_cases hlt : j < it.cols.length
      · rcases (unhide HX1).1 with ⟨h0, _⟩ | ⟨g, cap', hv, hc, hm, hgl, hx⟩
        · simp only at h0; omega
        simp only [Value.slice.injEq] at hv
        obtain ⟨rfl, _, rfl⟩ := hv
        have k0 : wr.cell? ⟨g, j, none⟩ = some (.string it.cols[j]) := by
          rw [hb.cell (p := ⟨g, j, none⟩) hgl, hx j (by simp; omega)]
          simp [hlt]
        have HT := hide (any_take_succ (fun c => !namedP (xs.map LItem.it) c) it.cols j hlt)
        have hjc : (j : Int) < it.cols.length := by omega
        generalize it.cols[j] = col at *
        clear hx hb hc hm hgl
        cases hp : namedP (xs.map LItem.it) col with
        | false =>
          have HP := hide hp
          have HQ := hide (placeP_out hp)
          clear hp
          go_wp2_with (go_at_call 46; refine (place_any _ xs _ _ (by exact (unhide HV1).below A.out.2.2) hl).mono ?_; rintro e w2 ⟨rfl, hb2⟩; rw [unhide HQ]; have HB2 := hide (below_after A.out.2.2 hb2); clear hb2)
          go_ret
          refine ⟨?_, below_after (unhide HB1) (unhide HB2)⟩
          have : checkItemP it (xs.map LItem.it) = 4 := by
            unfold checkItemP
            rw [if_neg (by rw [unhide H1]; simp), if_pos (any_of_take (j := j + 1) (by rw [unhide HT, A.out.2.1, unhide HP]; rfl))]
          rw [this]; rfl
        | true =>
          have HP := hide hp
          obtain ⟨pn, hpn, hpl⟩ := placeP_in hp
          have hp0 : ¬ ((pn : Int) < 0) := by omega
          have HQ := hide hpn
          clear hp hpn hpl
          go_wp2_with (go_at_call 46; refine (place_any _ xs _ _ (by exact (unhide HV1).below A.out.2.2) hl).mono ?_; rintro e w2 ⟨rfl, hb2⟩; rw [unhide HQ]; have HB2 := hide (below_after A.out.2.2 hb2); clear hb2)
          go_roundg (it.cols.length - (j + 1))
          case measure => have := A.out.1; omega
          case rel => exact ⟨j + 1, by omega, rfl, by go_num, by rw [unhide HT, A.out.2.1, unhide HP]; rfl, unhide HB2⟩
      · have hje : j = it.cols.length := by omega
        have HC : Hid (it.cols.any (fun c => !namedP (xs.map LItem.it) c) = false) := hide (by have := A.out.2.1; rw [hje, List.take_length] at this; exact this)
        have hjc : ¬ (j : Int) < it.cols.length := by omega
        have hr2 := (hb.block w.heap.size hs1).trans (unhide HR1)
        have HX2 := hide ((unhide HX1).below hb)
        have HB2 := hide (below_after (unhide HB1) hb)
        have HR2 := hide hr2
        have hs2 : w.heap.size < wr.heap.size := lt_of_block hr2
        obtain ⟨⟨c0, c1, c2, c3, c4, c5, c6⟩, f0, f1, f2, f3, f4, f5, f6⟩ := cells7 hr2
        clear hje hb hr2
        clear c0 c1 c2 c3 c5 f0 f1 f2 f3 f5
        obtain ⟨w2, hw2⟩ : ∃ w2, w2 = wr := ⟨_, rfl⟩
        subst hw2
        go_wp2_with fail
        clear A HX1 HB1 HR1 HV1 hlt hj
        have hz : (vs.zip it.rules).length = it.rules.length := by have := (unhide HX2).2.1; simp at this ⊢; omega
        have HZ := hide hz
        clear hz
        go_loopg [29] it.rules.length (fun g i wr => ∃ l : Nat, l ≤ it.rules.length ∧ g = it.rules.length - l ∧ i = .int .i64 (l : Int) ∧ (it.rules.take l).any (fun r => decide (r.tests.length ≠ it.cols.length)) = false ∧ Below w2.heap.size w2 wr)
        case atStart => exact ⟨0, by omega, rfl, rfl, by simp, Below.refl _ _⟩
        case round =>
          obtain ⟨l, hj, hg, rfl, hno, hb⟩ := hrel
          have A : Aside (gk = it.rules.length - l ∧ (it.rules.take l).any (fun r => decide (r.tests.length ≠ it.cols.length)) = false ∧ Below w2.heap.size w2 wr) := ⟨hg, hno, hb⟩
          clear hg hno
          have d4 := (hb.cell (p := ⟨w.heap.size, 4, none⟩) hs2).trans c4
          have hs3 : w.heap.size < wr.heap.size := Nat.lt_of_lt_of_le hs2 hb.size
          by_cases hlt : l < it.rules.length
          · rcases (unhide HX2).2.2.1 with ⟨h0, _⟩ | ⟨g, cap', hv, hc, hm, hgl, hx⟩
            · simp only at h0; omega
            simp only [Value.slice.injEq] at hv
            obtain ⟨rfl, _, rfl⟩ := hv
            have hlz : l < (vs.zip it.rules).length := by rw [unhide HZ]; exact hlt
            have key : ∀ i, i < 2 → wr.cell? ⟨g, l * 2 + i, none⟩ = (zcells (vs.zip it.rules)[l])[i]? := fun i hi => by
              rw [hb.cell (p := ⟨g, l * 2 + i, none⟩) hgl, hx _ (by simp only; omega)]
              exact flat_at zcells 2 (fun _ => rfl) (vs.zip it.rules) l i hlz hi
            have k0 := key 0 (by omega)
            have k1 := key 1 (by omega)
            have HT := hide (any_take_succ (fun r : PRule => decide (r.tests.length ≠ it.cols.length)) it.rules l hlt)
            have hy := (unhide HX2).2.2.2 (vs.zip it.rules)[l] (List.getElem_mem hlz)
            have hyl := HL3.out it.rules[l] (List.getElem_mem hlt)
            have he : (vs.zip it.rules)[l].2 = it.rules[l] := by rw [List.getElem_zip]
            have hlr : l < it.rules.length := hlt
            rw [← he] at hyl HT
            generalize (vs.zip it.rules)[l] = y at *
            obtain ⟨yv, yts, ynum⟩ := y
            simp only [zcells, List.getElem?_cons_zero, List.getElem?_cons_succ, Nat.add_zero] at k0 k1 hy hyl HT
            obtain ⟨yo, yc, rfl⟩ := hy.form
            have hjc : (l : Int) < it.rules.length := by omega
            clear key hx hb hc hm hgl hy he
            by_cases hp : yts.length = it.cols.length
            · have hpb : ((yts.length : Int) != it.cols.length) = false := by simp; omega
              have HP : Hid (decide (yts.length ≠ it.cols.length) = false) := hide (by simpa using hp)
              clear hp
              go_wp2_with fail
              go_roundg (it.rules.length - (l + 1))
              case measure => have := A.out.1; omega
              case rel => exact ⟨l + 1, by omega, rfl, by go_num, by rw [unhide HT, A.out.2.1]; exact unhide HP, A.out.2.2.alloc (by have := A.out.2.2.size; omega) _⟩
            · have hpb : ((yts.length : Int) != it.cols.length) = true := by simp; omega
              have HP : Hid (decide (yts.length ≠ it.cols.length) = true) := hide (by simpa using hp)
              clear hp
              go_wp2_with fail
              go_ret
              refine ⟨?_, below_after (unhide HB2) (A.out.2.2.alloc (by have := A.out.2.2.size; omega) _)⟩
              have : checkItemP it (xs.map LItem.it) = 5 := by
                unfold checkItemP
                rw [if_neg (by rw [unhide H1]; simp), if_neg (by rw [unhide HC]; simp), if_pos (any_of_take (j := l + 1) (by rw [unhide HT, A.out.2.1]; exact unhide HP))]
              rw [this]; rfl
          · have hje : l = it.rules.length := by omega
            have HJ := hide hje
            have hjc : ¬ (l : Int) < it.rules.length := by omega
            clear hje hb
            go_wp2
            go_ret
            refine ⟨?_, below_after (unhide HB2) A.out.2.2⟩
            have : checkItemP it (xs.map LItem.it) = 0 := by
              have h5 := A.out.2.1
              rw [unhide HJ, List.take_length] at h5
              unfold checkItemP
              rw [if_neg (by rw [unhide H1]; simp), if_neg (by rw [unhide HC]; simp), if_neg (by rw [h5]; simp)]
            rw [this]; rfl

end Go.Proofs.YthnggjaecngbiaaGreatDoor

namespace Go.Proofs.YthnggjaecngbiaaGreatDoor
open Go.RowKit

theorem flat_take {α : Type} (f : α → List Value) (m : Nat) (hm : ∀ x, (f x).length = m) : ∀ (l : List α) (i : Nat), (l.take i).flatMap f = (l.flatMap f).take (i * m)
  | [], i => by simp
  | x :: l, 0 => by simp
  | x :: l, i + 1 => by
    simp only [List.take_succ_cons, List.flatMap_cons]
    have e1 : (f x).take ((i + 1) * m) = f x := List.take_of_length_le (by rw [hm, Nat.add_mul]; omega)
    have e2 : (i + 1) * m - m = i * m := by rw [Nat.add_mul]; omega
    rw [flat_take f m hm l i, List.take_append, hm, e1, e2]

theorem below_of_drew {w w' : World} (h : Below w.drew.heap.size w.drew w') : Below w.heap.size w w' := ⟨h.os, h.tape, h.output, h.size, h.block⟩

def checkL : List PItem → List PItem → Nat × Int
  | _, [] => (0, 0)
  | ahead, it :: rest => if checkItemP it ahead = 0 then checkL (ahead ++ [it]) rest else (ahead.length + 1, checkItemP it ahead)
def checkR (its : List PItem) : Nat × Int := if beyondB its then (0, 2) else checkL [] its

theorem checkItemP_bd (it : PItem) (ahead : List PItem) : 0 ≤ checkItemP it ahead ∧ checkItemP it ahead ≤ 5 := by
  unfold checkItemP
  repeat' split
  all_goals omega

set_option maxRecDepth 100000 in
set_option maxHeartbeats 3200000 in
theorem check_any (v : Value) (xs : List LItem) (w : World) (hv : ItemsV w v xs) (hsm : ∀ x ∈ xs, SmallI x.it) (hl : xs.length ≤ 100000) :
    Calls Tryz.prog 62 #[v] w fun e w' => e = .returned (.tuple #[.int .i64 ((checkR (xs.map LItem.it)).1 : Int), .int .i64 (checkR (xs.map LItem.it)).2]) ∧ Below w.heap.size w w' := by
  obtain ⟨ao, cap, rfl⟩ := hv.1.form
  have HV := hide hv
  have HS := hide hsm
  clear hv hsm
  cases h1 : beyondB (xs.map LItem.it) with
  | true =>
    have HF : Hid (checkR (xs.map LItem.it) = (0, 2)) := hide (by unfold checkR; rw [if_pos h1])
    have H1 := hide h1
    clear h1
    go_enter Tryz.func62, Tryz.ntmps62
    go_wp2_with (go_at_call 91; refine (beyond_any _ xs _ (unhide HV) (unhide HS) hl).mono ?_; rintro e w1 ⟨rfl, hb⟩; rw [unhide H1]; have HB := hide hb; clear hb)
    go_ret2
    rw [unhide HF]
    exact ⟨rfl, unhide HB⟩
  | false =>
    have HF0 : Hid (checkR (xs.map LItem.it) = checkL [] (xs.map LItem.it)) := hide (by unfold checkR; rw [if_neg (by rw [h1]; simp)])
    have H1 := hide h1
    clear h1
    go_enter Tryz.func62, Tryz.ntmps62
    go_wp2_with (go_at_call 91; refine (beyond_any _ xs _ (unhide HV) (unhide HS) hl).mono ?_; rintro e w1 ⟨rfl, hb⟩; rw [unhide H1]; have HB := hide hb; clear hb)
    go_loopg [11] xs.length (fun g i wr => ∃ j : Nat, j ≤ xs.length ∧ g = xs.length - j ∧ i = .int .i64 (j : Int) ∧ checkR (xs.map LItem.it) = checkL ((xs.take j).map LItem.it) ((xs.drop j).map LItem.it) ∧ Below w.heap.size w wr)
    case atStart => exact ⟨0, by omega, rfl, rfl, by simpa using HF0.out, unhide HB⟩
    case round =>
      obtain ⟨j, hj, hg, rfl, hck, hb⟩ := hrel
      have A : Aside (gk = xs.length - j ∧ checkR (xs.map LItem.it) = checkL ((xs.take j).map LItem.it) ((xs.drop j).map LItem.it) ∧ Below w.heap.size w wr) := ⟨hg, hck, hb⟩
      clear hg hck HB HF0 H1
      by_cases hlt : j < xs.length
      · rcases (unhide HV).1 with ⟨h0, _⟩ | ⟨g, cap', hv, hc, hm, hgl, hx⟩
        · omega
        simp only [Value.slice.injEq] at hv
        obtain ⟨rfl, _, rfl⟩ := hv
        have key : ∀ i, i < 7 → wr.cell? ⟨g, j * 7 + i, none⟩ = (itCells xs[j])[i]? := fun i hi => by
          rw [hb.cell (p := ⟨g, j * 7 + i, none⟩) hgl, hx _ (by omega)]
          exact flat_at itCells 7 (fun _ => rfl) xs j i hlt hi
        have k0 := key 0 (by omega)
        have k1 := key 1 (by omega)
        have k2 := key 2 (by omega)
        have k3 := key 3 (by omega)
        have k4 := key 4 (by omega)
        have k5 := key 5 (by omega)
        have k6 := key 6 (by omega)
        simp only [itCells, icells, List.getElem?_cons_zero, List.getElem?_cons_succ, Nat.add_zero] at k0 k1 k2 k3 k4 k5 k6
        have hpre : ItemsV wr (.slice (some ⟨g, 0, none⟩) j cap) (xs.take j) := by
          refine ⟨?_, fun x hx' => ((unhide HV).2 x (List.mem_of_mem_take hx')).below hb⟩
          have := (SlAt.take hc hm hgl hx (i := j) hj).below hb
          rw [flat_take itCells 7 (fun _ => rfl), List.length_take, Nat.min_eq_left hj]
          exact this
        have hxi := ((unhide HV).2 xs[j] (List.getElem_mem hlt)).below hb
        have hsx := unhide HS xs[j] (List.getElem_mem hlt)
        have hdr : (xs.drop j).map LItem.it = xs[j].it :: (xs.drop (j + 1)).map LItem.it := by
          rw [List.drop_eq_getElem_cons hlt]; rfl
        have htk : (xs.take (j + 1)).map LItem.it = (xs.take j).map LItem.it ++ [xs[j].it] := by
          rw [List.take_succ_eq_append_getElem hlt, List.map_append]; rfl
        have hlen : ((xs.take j).map LItem.it).length = j := by simp; omega
        have hlen2 : (xs.take j).length ≤ 100000 := by simp; omega
        have hjc : (j : Int) < xs.length := by omega
        have hjcap : (j : Int) ≤ cap := by omega
        have hcapm : (cap : Int) ≤ 9223372036854775807 := by unfold maxLen at hm; omega
        generalize xs[j] = x at *
        obtain ⟨co, cc, hcv⟩ := hxi.1.form
        obtain ⟨ro, rc, hrv⟩ := hxi.2.2.1.form
        obtain ⟨it, cv, rv0, vs⟩ := x
        simp only at k0 k1 k2 k3 k4 k5 k6 hcv hrv hdr htk hsx
        subst hcv hrv
        have hb0 : Below wr.heap.size wr (wr.alloc (.cells (icells it (.slice co it.cols.length cc) (.slice ro it.rules.length rc)) 119)) := (Below.refl _ wr).alloc (Nat.le_refl _) _
        have HPRE := hide (hpre.below hb0)
        have HXI := hide (hxi.below hb0)
        have HSX := hide hsx
        have HD := hide hdr
        have HK := hide htk
        have HLN := hide hlen
        have HB0 := hide (below_after A.out.2.2 hb0)
        clear key hx hb hc hm hgl hpre hxi hsx hdr htk hlen hb0
        simp only [icells] at HPRE HXI HB0
        have hcb := checkItemP_bd it ((xs.take j).map LItem.it)
        obtain ⟨ce, hce⟩ : ∃ ce, checkItemP it ((xs.take j).map LItem.it) = ce := ⟨_, rfl⟩
        rw [hce] at hcb
        have HCE := hide hce
        clear hce
        go_wp2_with fail
        go_region_with (go_at_call 92; refine (checkItem_any ⟨it, .slice co it.cols.length cc, .slice ro it.rules.length rc, vs⟩ _ (xs.take j) _ (by exact unhide HXI) (unhide HSX) (by exact unhide HPRE) hlen2).mono ?_; rintro e w2 ⟨rfl, hb2⟩; rw [unhide HCE]; have HB2 := hide (below_of_drew hb2); clear hb2)
        all_goals
          by_cases hz : ce = 0
          · have hzb : (ce != 0) = false := by rw [hz]; rfl
            have HZ := hide hz
            clear hz
            go_wp2
            go_roundg (xs.length - (j + 1))
            case measure => have := A.out.1; omega
            case rel =>
              refine ⟨j + 1, by omega, rfl, by go_num, ?_, below_after (unhide HB0) (unhide HB2)⟩
              rw [A.out.2.1, unhide HD, checkL, if_pos (by rw [unhide HCE]; exact unhide HZ), unhide HK]
          · have hzb : (ce != 0) = true := by rw [bne_iff_ne]; exact hz
            have HZ : Hid (checkR (xs.map LItem.it) = (j + 1, ce)) := hide (by rw [A.out.2.1, unhide HD, checkL, if_neg (by rw [unhide HCE]; exact hz), unhide HLN, unhide HCE])
            clear hz
            go_wp2
            go_ret2
            rw [unhide HZ]
            refine ⟨?_, below_after (unhide HB0) (unhide HB2)⟩
            first | rfl | (simp; done)
      · have hje : j = xs.length := by omega
        have HJ : Hid (checkR (xs.map LItem.it) = (0, 0)) := hide (by rw [A.out.2.1, hje, List.drop_length]; rfl)
        have hjc : ¬ (j : Int) < xs.length := by omega
        clear hje hb
        go_wp2
        go_ret2
        rw [unhide HJ]
        exact ⟨rfl, A.out.2.2⟩

end Go.Proofs.YthnggjaecngbiaaGreatDoor

