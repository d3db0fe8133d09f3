import Derived.Test.YthnggjaecngbiaaDoorCkE
namespace Go.Proofs.YthnggjaecngbiaaDoor
open Go.RowKit

theorem flat_take {α : Type} (f : α → List Value) (m : Nat) (hm : ∀ x, (f x).length = m) : ∀ (l : List α) (i : Nat), (l.take i).flatMap f = (l.flatMap f).take (i * m)
  | [], i => by simp
  | x :: l, 0 => by simp
  | x :: l, i + 1 => by
    simp only [List.take_succ_cons, List.flatMap_cons]
    have e1 : (f x).take ((i + 1) * m) = f x := List.take_of_length_le (by rw [hm, Nat.add_mul]; omega)
    have e2 : (i + 1) * m - m = i * m := by rw [Nat.add_mul]; omega
    rw [flat_take f m hm l i, List.take_append, hm, e1, e2]

theorem below_of_drew {w w' : World} (h : Below w.drew.heap.size w.drew w') : Below w.heap.size w w' := ⟨h.os, h.tape, h.output, h.size, h.block⟩

def checkL : List PItem → List PItem → Nat × Int
  | _, [] => (0, 0)
  | ahead, it :: rest => if checkItemP it ahead = 0 then checkL (ahead ++ [it]) rest else (ahead.length + 1, checkItemP it ahead)
def checkR (its : List PItem) : Nat × Int := if beyondB its then (0, 2) else checkL [] its

theorem checkItemP_bd (it : PItem) (ahead : List PItem) : 0 ≤ checkItemP it ahead ∧ checkItemP it ahead ≤ 5 := by
  unfold checkItemP
  repeat' split
  all_goals omega

set_option maxRecDepth 100000 in
set_option maxHeartbeats 3200000 in
theorem check_any (v : Value) (xs : List LItem) (w : World) (hv : ItemsV w v xs) (hsm : ∀ x ∈ xs, SmallI x.it) (hl : xs.length ≤ 100000) :
    Calls Tryd.prog 13 #[v] w fun e w' => e = .returned (.tuple #[.int .i64 ((checkR (xs.map LItem.it)).1 : Int), .int .i64 (checkR (xs.map LItem.it)).2]) ∧ Below w.heap.size w w' := by
  obtain ⟨ao, cap, rfl⟩ := hv.1.form
  have HV := hide hv
  have HS := hide hsm
  clear hv hsm
  cases h1 : beyondB (xs.map LItem.it) with
  | true =>
    have HF : Hid (checkR (xs.map LItem.it) = (0, 2)) := hide (by unfold checkR; rw [if_pos h1])
    have H1 := hide h1
    clear h1
    go_enter Tryd.func13, Tryd.ntmps13
    go_wp2_with (go_at_call 20; refine (beyond_any _ xs _ (unhide HV) (unhide HS) hl).mono ?_; rintro e w1 ⟨rfl, hb⟩; rw [unhide H1]; have HB := hide hb; clear hb)
    go_ret2
    rw [unhide HF]
    exact ⟨rfl, unhide HB⟩
  | false =>
    have HF0 : Hid (checkR (xs.map LItem.it) = checkL [] (xs.map LItem.it)) := hide (by unfold checkR; rw [if_neg (by rw [h1]; simp)])
    have H1 := hide h1
    clear h1
    go_enter Tryd.func13, Tryd.ntmps13
    go_wp2_with (go_at_call 20; refine (beyond_any _ xs _ (unhide HV) (unhide HS) hl).mono ?_; rintro e w1 ⟨rfl, hb⟩; rw [unhide H1]; have HB := hide hb; clear hb)
    go_loopg [11] xs.length (fun g i wr => ∃ j : Nat, j ≤ xs.length ∧ g = xs.length - j ∧ i = .int .i64 (j : Int) ∧ checkR (xs.map LItem.it) = checkL ((xs.take j).map LItem.it) ((xs.drop j).map LItem.it) ∧ Below w.heap.size w wr)
    case atStart => exact ⟨0, by omega, rfl, rfl, by simpa using HF0.out, unhide HB⟩
    case round =>
      obtain ⟨j, hj, hg, rfl, hck, hb⟩ := hrel
      have A : Aside (gk = xs.length - j ∧ checkR (xs.map LItem.it) = checkL ((xs.take j).map LItem.it) ((xs.drop j).map LItem.it) ∧ Below w.heap.size w wr) := ⟨hg, hck, hb⟩
      clear hg hck HB HF0 H1
      by_cases hlt : j < xs.length
      · rcases (unhide HV).1 with ⟨h0, _⟩ | ⟨g, cap', hv, hc, hm, hgl, hx⟩
        · omega
        simp only [Value.slice.injEq] at hv
        obtain ⟨rfl, _, rfl⟩ := hv
        have key : ∀ i, i < 7 → wr.cell? ⟨g, j * 7 + i, none⟩ = (itCells xs[j])[i]? := fun i hi => by
          rw [hb.cell (p := ⟨g, j * 7 + i, none⟩) hgl, hx _ (by omega)]
          exact flat_at itCells 7 (fun _ => rfl) xs j i hlt hi
        have k0 := key 0 (by omega)
        have k1 := key 1 (by omega)
        have k2 := key 2 (by omega)
        have k3 := key 3 (by omega)
        have k4 := key 4 (by omega)
        have k5 := key 5 (by omega)
        have k6 := key 6 (by omega)
        simp only [itCells, icells, List.getElem?_cons_zero, List.getElem?_cons_succ, Nat.add_zero] at k0 k1 k2 k3 k4 k5 k6
        have hpre : ItemsV wr (.slice (some ⟨g, 0, none⟩) j cap) (xs.take j) := by
          refine ⟨?_, fun x hx' => ((unhide HV).2 x (List.mem_of_mem_take hx')).below hb⟩
          have := (SlAt.take hc hm hgl hx (i := j) hj).below hb
          rw [flat_take itCells 7 (fun _ => rfl), List.length_take, Nat.min_eq_left hj]
          exact this
        have hxi := ((unhide HV).2 xs[j] (List.getElem_mem hlt)).below hb
        have hsx := unhide HS xs[j] (List.getElem_mem hlt)
        have hdr : (xs.drop j).map LItem.it = xs[j].it :: (xs.drop (j + 1)).map LItem.it := by
          rw [List.drop_eq_getElem_cons hlt]; rfl
        have htk : (xs.take (j + 1)).map LItem.it = (xs.take j).map LItem.it ++ [xs[j].it] := by
          rw [List.take_succ_eq_append_getElem hlt, List.map_append]; rfl
        have hlen : ((xs.take j).map LItem.it).length = j := by simp; omega
        have hlen2 : (xs.take j).length ≤ 100000 := by simp; omega
        have hjc : (j : Int) < xs.length := by omega
        have hjcap : (j : Int) ≤ cap := by omega
        have hcapm : (cap : Int) ≤ 9223372036854775807 := by unfold maxLen at hm; omega
        generalize xs[j] = x at *
        obtain ⟨co, cc, hcv⟩ := hxi.1.form
        obtain ⟨ro, rc, hrv⟩ := hxi.2.2.1.form
        obtain ⟨it, cv, rv0, vs⟩ := x
        simp only at k0 k1 k2 k3 k4 k5 k6 hcv hrv hdr htk hsx
        subst hcv hrv
        have hb0 : Below wr.heap.size wr (wr.alloc (.cells (icells it (.slice co it.cols.length cc) (.slice ro it.rules.length rc)) 47)) := (Below.refl _ wr).alloc (Nat.le_refl _) _
        have HPRE := hide (hpre.below hb0)
        have HXI := hide (hxi.below hb0)
        have HSX := hide hsx
        have HD := hide hdr
        have HK := hide htk
        have HLN := hide hlen
        have HB0 := hide (below_after A.out.2.2 hb0)
        clear key hx hb hc hm hgl hpre hxi hsx hdr htk hlen hb0
        simp only [icells] at HPRE HXI HB0
        have hcb := checkItemP_bd it ((xs.take j).map LItem.it)
        obtain ⟨ce, hce⟩ : ∃ ce, checkItemP it ((xs.take j).map LItem.it) = ce := ⟨_, rfl⟩
        rw [hce] at hcb
        have HCE := hide hce
        clear hce
        go_wp2_with fail
        go_region_with (go_at_call 21; refine (checkItem_any ⟨it, .slice co it.cols.length cc, .slice ro it.rules.length rc, vs⟩ _ (xs.take j) _ (by exact unhide HXI) (unhide HSX) (by exact unhide HPRE) hlen2).mono ?_; rintro e w2 ⟨rfl, hb2⟩; rw [unhide HCE]; have HB2 := hide (below_of_drew hb2); clear hb2)
        all_goals
          by_cases hz : ce = 0
          · have hzb : (ce != 0) = false := by rw [hz]; rfl
            have HZ := hide hz
            clear hz
            go_wp2
            go_roundg (xs.length - (j + 1))
            case measure => have := A.out.1; omega
            case rel =>
              refine ⟨j + 1, by omega, rfl, by go_num, ?_, below_after (unhide HB0) (unhide HB2)⟩
              rw [A.out.2.1, unhide HD, checkL, if_pos (by rw [unhide HCE]; exact unhide HZ), unhide HK]
          · have hzb : (ce != 0) = true := by rw [bne_iff_ne]; exact hz
            have HZ : Hid (checkR (xs.map LItem.it) = (j + 1, ce)) := hide (by rw [A.out.2.1, unhide HD, checkL, if_neg (by rw [unhide HCE]; exact hz), unhide HLN, unhide HCE])
            clear hz
            go_wp2
            go_ret2
            rw [unhide HZ]
            refine ⟨?_, below_after (unhide HB0) (unhide HB2)⟩
            first | rfl | (simp; done)
      · have hje : j = xs.length := by omega
        have HJ : Hid (checkR (xs.map LItem.it) = (0, 0)) := hide (by rw [A.out.2.1, hje, List.drop_length]; rfl)
        have hjc : ¬ (j : Int) < xs.length := by omega
        clear hje hb
        go_wp2
        go_ret2
        rw [unhide HJ]
        exact ⟨rfl, A.out.2.2⟩

end Go.Proofs.YthnggjaecngbiaaDoor
