import Derived.Test.YthnggjaecngbiaaDoorRdO
namespace Go.Proofs.YthnggjaecngbiaaDoor
open Go.RowKit

/-- All items from k on. -/
def itemsR (s : ByteArray) : Nat → Nat → List PItem → Sum Nat (List PItem)
  | 0, k, _ => .inl k
  | f + 1, k, its =>
    if nextP s k = s.size then .inr its
    else match itemR s (nextP s k) with
      | .inl p => .inl p
      | .inr (it, q) => itemsR s f q (its ++ [it])
def planR (s : ByteArray) : Sum Nat (List PItem) := itemsR s (s.size + 1) 0 []

theorem inputR_bd {s : ByteArray} {k q : Nat} {it : PItem} (hk : k ≤ s.size) (h : inputR s k = .inr (it, q)) : k < q ∧ q ≤ s.size := by
  unfold inputR at h
  split at h
  · cases h
  rename_i x q1 hn
  have b1 := nameR_bd hk hn
  have h1 := nextP_le b1.2.1
  have h2 := nextP_ge s q1
  have fin : ∀ (r : Nat) (i : PItem), r ≤ s.size → q1 ≤ r → endIn s r i = .inr (it, q) → k < q ∧ q ≤ s.size := fun r i hr hqr h => by
    have a1 := nextP_le hr
    have a2 := nextP_ge s r
    unfold endIn at h
    split at h
    · rename_i hc
      have := inR_lt (by omega) hc
      simp only [Sum.inr.injEq, Prod.mk.injEq] at h
      omega
    · cases h
  split at h
  · rename_i ha
    have h3 := inR_lt (by omega) ha
    split at h
    · cases h
    · rename_i v r hm
      have b2 := marksR_bd (by omega) hm
      exact fin r _ b2.2 (by omega) h
  · exact fin (nextP s q1) _ h1 h2 h
theorem rulesR_bd (s : ByteArray) : ∀ (f k : Nat) (i it : PItem) (q : Nat), k ≤ s.size → rulesR s f k i = .inr (it, q) → k < q ∧ q ≤ s.size
  | 0, k, i, it, q, hk, h => by cases h
  | f + 1, k, i, it, q, hk, h => by
    have h1 := nextP_le hk
    have h4 := nextP_ge s k
    simp only [rulesR] at h
    split at h
    · rename_i ha
      have h5 := inR_lt (by omega) ha
      simp only [Sum.inr.injEq, Prod.mk.injEq] at h
      omega
    · split at h
      · cases h
      · rename_i r q' hn
        have b1 := ruleR_bd h1 hn
        have := rulesR_bd s f q' _ it q b1.2 h
        omega
theorem tableR_bd {s : ByteArray} {k q : Nat} {it : PItem} (hk : k ≤ s.size) (h : tableR s k = .inr (it, q)) : k < q ∧ q ≤ s.size := by
  unfold tableR at h
  split at h
  · cases h
  rename_i x q1 hn
  have b1 := nameR_bd hk hn
  split at h
  · cases h
  rename_i c q2 hp
  have b2 := policyR_bd b1.2.1 hp
  split at h
  · cases h
  rename_i xs q3 hc
  have b3 := columnsR_bd b2.1.2 hc
  have h1 := nextP_le b3.2
  have h2 := nextP_ge s q3
  have fin : ∀ (r : Nat) (i : PItem), r ≤ s.size → q3 ≤ r → bodyR s r i = .inr (it, q) → k < q ∧ q ≤ s.size := fun r i hr hqr h => by
    have a1 := nextP_le hr
    have a2 := nextP_ge s r
    unfold bodyR at h
    split at h
    · rename_i hc
      have := inR_lt (by omega) hc
      have := rulesR_bd s _ _ _ _ _ (by omega) h
      omega
    · cases h
  unfold dropsR at h
  split at h
  · rename_i ha
    have h3 := inR_lt (by omega) ha
    split at h
    · cases h
    · rename_i v r hm
      have b2 := marksR_bd (by omega) hm
      exact fin r _ b2.2 (by omega) h
  · exact fin (nextP s q3) _ h1 h2 h
theorem itemR_bd {s : ByteArray} {k q : Nat} {it : PItem} (hk : k ≤ s.size) (h : itemR s k = .inr (it, q)) : k < q ∧ q ≤ s.size := by
  have hp := nextP_le hk
  have hq := lowEnd_le hp
  have h1 := nextP_ge s k
  have h2 := lowEnd_ge s (nextP s k)
  unfold itemR at h
  split at h
  · have := inputR_bd hq h; omega
  split at h
  · have := tableR_bd hq h; omega
  · cases h

theorem Tryd.info_item : (Tryd.prog.info? 47).map (fun i => (i.zero, i.size, i.bytes)) = some (some (.agg #[.string ByteArray.empty, .bool false, .int .i64 0, .int .u8 0, .slice none 0 0, .int .i64 0, .slice none 0 0]), 7, 96) := by kernel_rfl

theorem Moved.below_of {T : TypeId} {s : ByteArray} {k : Nat} {w w' : World} {o : Obj} (h : Moved T w.heap.size s k (w.alloc o) w') : Below w.heap.size w w' :=
  ⟨h.os, h.tape, h.output, by have := h.size; simp at this; omega, fun j hj => by rw [h.block j (by simp; omega) (by omega), Below.heap_alloc _ _ _ hj]⟩

set_option maxRecDepth 100000 in
set_option maxHeartbeats 1600000 in
theorem items_any (s : ByteArray) (w : World) (hs : s.size ≤ 1000) :
    Calls Tryd.prog 12 #[.string s] w fun e w' => (∃ p, planR s = .inl p ∧ e = .panicked [{ v := .iface 36 (.agg #[.int .i64 (p : Int)]), recovered := false }] ∧ Below w.heap.size w w') ∨ (∃ its, planR s = .inr its ∧ ∃ v xs, xs.map LItem.it = its ∧ e = .returned v ∧ Below w.heap.size w w' ∧ ItemsAt (w.heap.size + 1) w' v xs) := by
  obtain ⟨i0, hi, hz0, hz1, hz2⟩ := info_parts Tryd.info_item
  go_enter Tryd.func12, Tryd.ntmps12
  go_wp2_with fail
  have HR : Hid (Rd 54 w.heap.size s 0 (w.alloc (.cells #[.string s, .int .i64 0] 54))) := alloc_last w _
  go_loopg [4] (s.size) (fun g v wr => ∃ m f xs, g = s.size - m ∧ s.size + 1 - m ≤ f ∧ m ≤ s.size ∧ xs.length ≤ m ∧ planR s = itemsR s f m (xs.map LItem.it) ∧ Moved 54 w.heap.size s m (w.alloc (.cells #[.string s, .int .i64 0] 54)) wr ∧ ItemsAt (w.heap.size + 1) wr v xs)
  case atStart => exact ⟨0, s.size + 1, [], rfl, by omega, by omega, by simp, rfl, Moved.refl (unhide HR), World.ownsRow_nil _ _ _ _, by simp⟩
  case round =>
    obtain ⟨m, f, xs, hg, hf, hm, hlen, hpl, hmv, hit⟩ := hrel
    clear HR
    have hpm := nextP_le hm
    have hge := nextP_ge s m
    obtain ⟨g', rfl⟩ : ∃ g', f = g' + 1 := ⟨f - 1, by omega⟩
    obtain ⟨lo, ln, lc, rfl⟩ := owns_form hit.1
    have A : Aside (gk = s.size - m ∧ planR s = itemsR s (g' + 1) m (xs.map LItem.it) ∧ Moved 54 w.heap.size s m (w.alloc (.cells #[.string s, .int .i64 0] 54)) wr ∧ ItemsAt (w.heap.size + 1) wr (.slice lo ln lc) xs) := ⟨hg, hpl, hmv, hit⟩
    clear hg hpl hmv hit
    by_cases h1 : nextP s m = s.size
    · have HF : Hid (planR s = .inr (xs.map LItem.it)) := hide (by rw [A.out.2.1, itemsR, if_pos h1])
      have hde : decide (nextP s m = s.size) = true := by simpa using h1
      have HD := hide hde
      clear h1 hde
      go_wp2_with (go_at_call 18; refine (ended_any _ _ m _ (by exact A.out.2.2.1.rd) hs hm).mono ?_; rintro e w2 ⟨rfl, hm2⟩; rw [unhide HD]; have HN := hide hm2; clear hm2)
      go_ret
      exact Or.inr ⟨_, HF.out, _, xs, rfl, rfl, (A.out.2.2.1.trans (unhide HN)).below_of, A.out.2.2.2.moved (unhide HN) (by omega)⟩
    · have HG : Hid (planR s = match itemR s (nextP s m) with | .inl p => .inl p | .inr (it, q) => itemsR s g' q (xs.map LItem.it ++ [it])) := hide (by rw [A.out.2.1, itemsR, if_neg h1])
      have hde : decide (nextP s m = s.size) = false := by simpa using h1
      have HD := hide hde
      clear h1 hde
      go_wp2_with (go_at_call 18; refine (ended_any _ _ m _ (by exact A.out.2.2.1.rd) hs hm).mono ?_; rintro e w2 ⟨rfl, hm2⟩; rw [unhide HD]; have HN := hide hm2; clear hm2)
      refine (item_any _ _ _ _ (unhide HN).rd hs hpm).mono ?_
      rintro e w3 (⟨p, hd, rfl, m3, hm3⟩ | ⟨it, q, hd, co, cn, cc, ro, rn, rc, vs, rfl, hm3, hia⟩)
      · have HF : Hid (planR s = .inl p) := hide (by rw [unhide HG, hd])
        have HS := hide ((A.out.2.2.1.trans (unhide HN)).trans hm3)
        clear hd hm3
        go_wp2
        exact ⟨rfl, Or.inl ⟨_, HF.out, rfl, (unhide HS).below_of⟩⟩
      · have HF : Hid (planR s = itemsR s g' q (List.map LItem.it (xs ++ [(⟨it, .slice co cn cc, .slice ro rn rc, vs⟩ : LItem)]))) := hide (by rw [unhide HG, hd]; simp)
        have hbd := itemR_bd hpm hd
        have HS := hide ((A.out.2.2.1.trans (unhide HN)).trans hm3)
        have hw2 : w.heap.size + 1 ≤ w2.heap.size := by have := (A.out.2.2.1.trans (unhide HN)).size; simp at this; omega
        have HA := hide (hia.base hw2)
        have HL := hide ((A.out.2.2.2.moved (unhide HN) (by omega)).moved hm3 (by omega))
        have hw3 : w.heap.size + 1 ≤ w3.heap.size := by have := hm3.size; omega
        clear hd hm3 hia
        simp only [iv, icells]
        go_wp2_with (at_builtin; refine wpList_append_own _ rfl _ _ 31 rfl (w.heap.size + 1) 47 i0 _ 7 96 Tryd.underlying31 hi hz0 hz1 hz2 rfl (by decide) _ _ _ rfl ((unhide HL).1.alloc _) ⟨w3.heap.size, 0, none⟩ 1 1 (itCells ⟨it, .slice co cn cc, .slice ro rn rc, vs⟩) rfl rfl (World.news_of_block (cs := icells it (.slice co cn cc) (.slice ro rn rc)) (t := 47) (fr := (0, 0)) (heap_alloc_new w3 _)) ?c2 ?c3 ?c4 ?c5 ?_)
        case c2 => intro u hu; simp [itCells, icells] at hu; rcases hu with rfl | rfl | rfl | rfl | rfl | rfl | rfl <;> rfl
        case c3 => unfold maxLen; omega
        case c4 => omega
        case c5 => simp; omega
        · intro v' w5 hown5 hgrow _
          have HM5 : Hid (Moved 54 w.heap.size s q (w.alloc (.cells #[.string s, .int .i64 0] 54)) w5) := ((unhide HS).alloc _).grown hgrow (fun j hj => by have := ((unhide HL).1.lt j hj).1; simpa using this) (by simp)
          have HL5 := hide ((unhide HL).push (unhide HA) hgrow hown5 rfl)
          clear hown5 hgrow
          go_wp2
          go_roundg (s.size - q)
          case measure => have := A.out.1; omega
          case rel => exact ⟨q, g', xs ++ [⟨it, .slice co cn cc, .slice ro rn rc, vs⟩], rfl, by omega, by omega, by simp; omega, HF.out, unhide HM5, unhide HL5⟩

end Go.Proofs.YthnggjaecngbiaaDoor
