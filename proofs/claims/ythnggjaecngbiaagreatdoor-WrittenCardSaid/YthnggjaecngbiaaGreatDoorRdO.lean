import Derived.Test.YthnggjaecngbiaaGreatDoorRdN
namespace Go.Proofs.YthnggjaecngbiaaGreatDoor
open Go.RowKit

def itemR (s : ByteArray) (k : Nat) : Res PItem :=
  if (s.extract (nextP s k) (lowEnd s (nextP s k))).toList == [105, 110] then inputR s (lowEnd s (nextP s k))
  else if (s.extract (nextP s k) (lowEnd s (nextP s k))).toList == [116, 97, 98, 108, 101] then tableR s (lowEnd s (nextP s k))
  else .inl (nextP s k)

/-- An item with where its columns, its rules and their tests lie. -/
structure LItem where
  it : PItem
  cv : Value
  rv : Value
  vs : List Value

def ItemAt (base : Nat) (w : World) (x : LItem) : Prop :=
  w.ownsRow base 9 1 x.cv x.it.cols.length (x.it.cols.map Value.string) ∧ RulesAt base w x.rv x.vs x.it.rules
def itCells (x : LItem) : List Value := (icells x.it x.cv x.rv).toList
def ItemsAt (base : Nat) (w : World) (v : Value) (xs : List LItem) : Prop :=
  w.ownsRow base 119 7 v xs.length (xs.flatMap itCells) ∧ ∀ x ∈ xs, ItemAt base w x

theorem ItemAt.keep {w w' : World} {base : Nat} {x : LItem} (h : ItemAt base w x) (k : ∀ (g : Nat) (c : Array Value) (e : TypeId), e = 9 ∨ e = 160 ∨ e = 193 → base ≤ g → w.heap[g]? = some (.cells c e) → w'.heap[g]? = w.heap[g]?) : ItemAt base w' x :=
  ⟨owns_keep h.1 (fun g c hb hg => k g c _ (by simp) hb hg), h.2.keep (fun g c hb hg => k g c _ (by simp) hb hg) (fun g c hb hg => k g c _ (by simp) hb hg)⟩
theorem ItemAt.moved {b : Nat} {s : ByteArray} {m : Nat} {w w' : World} {base : Nat} {x : LItem} (h : ItemAt base w x) (g : Moved 152 b s m w w') (hb : b < base) : ItemAt base w' x :=
  ⟨owns_moved h.1 g hb, h.2.moved g hb⟩
theorem ItemAt.base {w : World} {base base' : Nat} {x : LItem} (h : ItemAt base w x) (hb : base' ≤ base) : ItemAt base' w x :=
  ⟨owns_base h.1 hb, h.2.1, owns_base h.2.2.1 hb, fun y hy => owns_base (h.2.2.2 y hy) hb⟩
theorem ItemsAt.moved {b : Nat} {s : ByteArray} {m : Nat} {w w' : World} {base : Nat} {v : Value} {xs : List LItem} (h : ItemsAt base w v xs) (g : Moved 152 b s m w w') (hb : b < base) : ItemsAt base w' v xs :=
  ⟨owns_moved h.1 g hb, fun x hx => (h.2 x hx).moved g hb⟩
theorem ItemsAt.push {w w' : World} {base : Nat} {v v' : Value} {xs : List LItem} {x : LItem} {o : Obj} {n : Nat} (h : ItemsAt base w v xs) (hx : ItemAt base w x) (g : (w.alloc o).grownBy w' v.ownBlock) (hv : w'.ownsRow base 119 7 v' n (xs.flatMap itCells ++ itCells x)) (hn : n = xs.length + 1) : ItemsAt base w' v' (xs ++ [x]) := by
  subst hn
  have keep : ∀ (gg : Nat) (c : Array Value) (e : TypeId), e = 9 ∨ e = 160 ∨ e = 193 → base ≤ gg → w.heap[gg]? = some (.cells c e) → w'.heap[gg]? = w.heap[gg]? := fun gg c e he _ hc => by
    have hne := owns_ne h.1 hc (by rcases he with rfl | rfl | rfl <;> decide)
    rw [g.block gg (by have := lt_of_block hc; simp; omega) (fun e => hne e.symm), Below.heap_alloc _ _ _ (lt_of_block hc)]
  refine ⟨by simpa using hv, ?_⟩
  intro y hy
  simp at hy
  rcases hy with hy | rfl
  · exact (h.2 y hy).keep keep
  · exact hx.keep keep

set_option maxRecDepth 100000 in
set_option maxHeartbeats 1600000 in
theorem item_any (b : Nat) (s : ByteArray) (k : Nat) (w : World) (hr : Rd 152 b s k w) (hs : s.size ≤ 1000) (hk : k ≤ s.size) :
    Calls Tryz.prog 90 #[.pointer (some ⟨b, 0, none⟩)] w fun e w' => (∃ p, itemR s k = .inl p ∧ e = .panicked [{ v := .iface 110 (.agg #[.int .i64 (p : Int)]), recovered := false }] ∧ ∃ m, Moved 152 b s m w w') ∨ (∃ it q, itemR s k = .inr (it, q) ∧ ∃ co cn cc ro rn rc vs, e = .returned (iv it (.slice co cn cc) (.slice ro rn rc)) ∧ Moved 152 b s q w w' ∧ ItemAt w.heap.size w' ⟨it, .slice co cn cc, .slice ro rn rc, vs⟩) := by
  have hp := nextP_le hk
  have hq := lowEnd_le hp
  have hlt := hr.lt
  have H := hide hr
  clear hr
  have hpp : nextP s (nextP s k) = nextP s k := nextP_idem hk
  have HP := hide hpp
  clear hpp
  go_enter Tryz.func90, Tryz.ntmps90
  go_wp2_with (go_at_call 120; refine (next_any _ _ k _ (by exact (unhide H).alloc _) hs hk).mono ?_; rintro e w1 ⟨rfl, hm1⟩; have HM := hide hm1; clear hm1)
  refine (word_any _ _ _ _ (unhide HM).rd hs hp).mono ?_
  rintro e w2 ⟨rfl, hm2⟩
  rw [unhide HP] at hm2 ⊢
  have HN := hide ((unhide HM).trans hm2)
  clear hm2 HM HP H
  cases h1 : ((s.extract (nextP s k) (lowEnd s (nextP s k))).toList == [105, 110]) with
  | true =>
    have HG : Hid (itemR s k = inputR s (lowEnd s (nextP s k))) := hide (by unfold itemR; rw [if_pos h1])
    generalize hx : s.extract (nextP s k) (lowEnd s (nextP s k)) = x at *
    clear hx
    go_wp2_with fail
    refine (input_any _ _ _ _ (unhide HN).rd hs hq).mono ?_
    rintro e w3 (⟨p, hd, rfl, m, hm3⟩ | ⟨it, q, hd, hisT, hco, hru, rfl, hm3⟩)
    · have HF : Hid (itemR s k = .inl p) := hide (by rw [unhide HG, hd])
      have HS := hide ((unhide HN).trans hm3)
      clear hd hm3
      go_wp2
      exact ⟨rfl, Or.inl ⟨_, HF.out, rfl, _, (unhide HS).of_alloc⟩⟩
    · have HF : Hid (itemR s k = .inr (it, q) ∧ it.cols = [] ∧ it.rules = []) := ⟨by rw [unhide HG, hd], hco, hru⟩
      have HS := hide ((unhide HN).trans hm3)
      clear hd hm3 hco hru hisT
      obtain ⟨⟨d0, d1, d2, d3, d4, d5, d6⟩, g0, g1, g2, g3, g4, g5, g6⟩ := cells7 ((unhide HS).kept hlt)
      simp only [iv, icells, noSl]
      go_wp2
      refine bodyPost_ret (v := iv it noSl noSl) ?_ rfl ?_
      · simp [results, Tryz.results90, go_sem, iv, icells, noSl, d0, d1, d2, d3, d4, d5, d6]
      refine Or.inr ⟨_, _, HF.out.1, none, 0, 0, none, 0, 0, [], rfl, (unhide HS).of_alloc.put7 (Nat.le_refl _) hlt _ _ _ _ _ _ _, ?_, ?_⟩
      · simp only [HF.out.2.1]; exact World.ownsRow_nil _ _ _ _
      · simp only [HF.out.2.2]; exact RulesAt.nil _ _
  | false =>
    cases h2 : ((s.extract (nextP s k) (lowEnd s (nextP s k))).toList == [116, 97, 98, 108, 101]) with
    | true =>
      have HG : Hid (itemR s k = tableR s (lowEnd s (nextP s k))) := hide (by unfold itemR; rw [if_neg (by rw [h1]; simp), if_pos h2])
      generalize hx : s.extract (nextP s k) (lowEnd s (nextP s k)) = x at *
      clear hx
      go_wp2_with fail
      refine (table_any _ _ _ _ (unhide HN).rd hs hq).mono ?_
      rintro e w3 (⟨p, hd, rfl, m, hm3⟩ | ⟨it, q, hd, hisT, cv, rv0, vs, rfl, hm3, hco, hru⟩)
      · have HF : Hid (itemR s k = .inl p) := hide (by rw [unhide HG, hd])
        have HS := hide ((unhide HN).trans hm3)
        clear hd hm3
        go_wp2
        exact ⟨rfl, Or.inl ⟨_, HF.out, rfl, _, (unhide HS).of_alloc⟩⟩
      · have HF : Hid (itemR s k = .inr (it, q)) := hide (by rw [unhide HG, hd])
        have HS := hide ((unhide HN).trans hm3)
        obtain ⟨co, cn, cc, rfl⟩ := owns_form hco
        obtain ⟨ro, rn, rc, rfl⟩ := owns_form hru.2.1
        have hsz : w.heap.size ≤ w2.heap.size := by have := (unhide HN).size; simp at this; omega
        have HA : Hid (ItemAt w.heap.size w3 ⟨it, .slice co cn cc, .slice ro rn rc, vs⟩) := ItemAt.base ⟨hco, hru⟩ hsz
        clear hd hm3 hco hru hisT
        have hr0 := (unhide HS).kept hlt
        obtain ⟨⟨d0, d1, d2, d3, d4, d5, d6⟩, g0, g1, g2, g3, g4, g5, g6⟩ := cells7 hr0
        have HR0 := hide hr0
        clear hr0
        simp only [iv, icells]
        go_wp2
        refine bodyPost_ret (v := iv it (.slice co cn cc) (.slice ro rn rc)) ?_ rfl ?_
        · simp [results, Tryz.results90, go_sem, iv, icells, d0, d1, d2, d3, d4, d5, d6]
        refine Or.inr ⟨_, _, HF.out, _, _, _, _, _, _, vs, rfl, (unhide HS).of_alloc.put7 (Nat.le_refl _) hlt _ _ _ _ _ _ _, ?_, ?_⟩
        · exact own7 (unhide HA).1 (unhide HR0) (by decide)
        · exact ⟨(unhide HA).2.1, own7 (unhide HA).2.2.1 (unhide HR0) (by decide), fun x hx => own7 ((unhide HA).2.2.2 x hx) (unhide HR0) (by decide)⟩
    | false =>
      have HG : Hid (itemR s k = .inl (nextP s k)) := hide (by unfold itemR; rw [if_neg (by rw [h1]; simp), if_neg (by rw [h2]; simp)])
      generalize hx : s.extract (nextP s k) (lowEnd s (nextP s k)) = x at *
      clear hx
      go_wp2_with fail
      exact ⟨rfl, Or.inl ⟨_, HG.out, rfl, _, (unhide HN).of_alloc⟩⟩

end Go.Proofs.YthnggjaecngbiaaGreatDoor

namespace Go.Proofs.YthnggjaecngbiaaGreatDoor
open Go.RowKit

/-- All items from k on. -/
def itemsR (s : ByteArray) : Nat → Nat → List PItem → Sum Nat (List PItem)
  | 0, k, _ => .inl k
  | f + 1, k, its =>
    if nextP s k = s.size then .inr its
    else match itemR s (nextP s k) with
      | .inl p => .inl p
      | .inr (it, q) => itemsR s f q (its ++ [it])
def planR (s : ByteArray) : Sum Nat (List PItem) := itemsR s (s.size + 1) 0 []

theorem inputR_bd {s : ByteArray} {k q : Nat} {it : PItem} (hk : k ≤ s.size) (h : inputR s k = .inr (it, q)) : k < q ∧ q ≤ s.size := by
  unfold inputR at h
  split at h
  · cases h
  rename_i x q1 hn
  have b1 := nameR_bd hk hn
  have h1 := nextP_le b1.2.1
  have h2 := nextP_ge s q1
  have fin : ∀ (r : Nat) (i : PItem), r ≤ s.size → q1 ≤ r → endIn s r i = .inr (it, q) → k < q ∧ q ≤ s.size := fun r i hr hqr h => by
    have a1 := nextP_le hr
    have a2 := nextP_ge s r
    unfold endIn at h
    split at h
    · rename_i hc
      have := inR_lt (by omega) hc
      simp only [Sum.inr.injEq, Prod.mk.injEq] at h
      omega
    · cases h
  split at h
  · rename_i ha
    have h3 := inR_lt (by omega) ha
    split at h
    · cases h
    · rename_i v r hm
      have b2 := marksR_bd (by omega) hm
      exact fin r _ b2.2 (by omega) h
  · exact fin (nextP s q1) _ h1 h2 h
theorem rulesR_bd (s : ByteArray) : ∀ (f k : Nat) (i it : PItem) (q : Nat), k ≤ s.size → rulesR s f k i = .inr (it, q) → k < q ∧ q ≤ s.size
  | 0, k, i, it, q, hk, h => by cases h
  | f + 1, k, i, it, q, hk, h => by
    have h1 := nextP_le hk
    have h4 := nextP_ge s k
    simp only [rulesR] at h
    split at h
    · rename_i ha
      have h5 := inR_lt (by omega) ha
      simp only [Sum.inr.injEq, Prod.mk.injEq] at h
      omega
    · split at h
      · cases h
      · rename_i r q' hn
        have b1 := ruleR_bd h1 hn
        have := rulesR_bd s f q' _ it q b1.2 h
        omega
theorem tableR_bd {s : ByteArray} {k q : Nat} {it : PItem} (hk : k ≤ s.size) (h : tableR s k = .inr (it, q)) : k < q ∧ q ≤ s.size := by
  unfold tableR at h
  split at h
  · cases h
  rename_i x q1 hn
  have b1 := nameR_bd hk hn
  split at h
  · cases h
  rename_i c q2 hp
  have b2 := policyR_bd b1.2.1 hp
  split at h
  · cases h
  rename_i xs q3 hc
  have b3 := columnsR_bd b2.1.2 hc
  have h1 := nextP_le b3.2
  have h2 := nextP_ge s q3
  have fin : ∀ (r : Nat) (i : PItem), r ≤ s.size → q3 ≤ r → bodyR s r i = .inr (it, q) → k < q ∧ q ≤ s.size := fun r i hr hqr h => by
    have a1 := nextP_le hr
    have a2 := nextP_ge s r
    unfold bodyR at h
    split at h
    · rename_i hc
      have := inR_lt (by omega) hc
      have := rulesR_bd s _ _ _ _ _ (by omega) h
      omega
    · cases h
  unfold dropsR at h
  split at h
  · rename_i ha
    have h3 := inR_lt (by omega) ha
    split at h
    · cases h
    · rename_i v r hm
      have b2 := marksR_bd (by omega) hm
      exact fin r _ b2.2 (by omega) h
  · exact fin (nextP s q3) _ h1 h2 h
theorem itemR_bd {s : ByteArray} {k q : Nat} {it : PItem} (hk : k ≤ s.size) (h : itemR s k = .inr (it, q)) : k < q ∧ q ≤ s.size := by
  have hp := nextP_le hk
  have hq := lowEnd_le hp
  have h1 := nextP_ge s k
  have h2 := lowEnd_ge s (nextP s k)
  unfold itemR at h
  split at h
  · have := inputR_bd hq h; omega
  split at h
  · have := tableR_bd hq h; omega
  · cases h

theorem Tryz.info_item : (Tryz.prog.info? 119).map (fun i => (i.zero, i.size, i.bytes)) = some (some (.agg #[.string ByteArray.empty, .bool false, .int .i64 0, .int .u8 0, .slice none 0 0, .int .i64 0, .slice none 0 0]), 7, 96) := by kernel_rfl

theorem Moved.below_of {T : TypeId} {s : ByteArray} {k : Nat} {w w' : World} {o : Obj} (h : Moved T w.heap.size s k (w.alloc o) w') : Below w.heap.size w w' :=
  ⟨h.os, h.tape, h.output, by have := h.size; simp at this; omega, fun j hj => by rw [h.block j (by simp; omega) (by omega), Below.heap_alloc _ _ _ hj]⟩

set_option maxRecDepth 100000 in
set_option maxHeartbeats 1600000 in
theorem items_any (s : ByteArray) (w : World) (hs : s.size ≤ 1000) :
    Calls Tryz.prog 61 #[.string s] w fun e w' => (∃ p, planR s = .inl p ∧ e = .panicked [{ v := .iface 110 (.agg #[.int .i64 (p : Int)]), recovered := false }] ∧ Below w.heap.size w w') ∨ (∃ its, planR s = .inr its ∧ ∃ v xs, xs.map LItem.it = its ∧ e = .returned v ∧ Below w.heap.size w w' ∧ ItemsAt (w.heap.size + 1) w' v xs) := by
  obtain ⟨i0, hi, hz0, hz1, hz2⟩ := info_parts Tryz.info_item
  go_enter Tryz.func61, Tryz.ntmps61
  go_wp2_with fail
  have HR : Hid (Rd 152 w.heap.size s 0 (w.alloc (.cells #[.string s, .int .i64 0] 152))) := alloc_last w _
  go_loopg [4] (s.size) (fun g v wr => ∃ m f xs, g = s.size - m ∧ s.size + 1 - m ≤ f ∧ m ≤ s.size ∧ xs.length ≤ m ∧ planR s = itemsR s f m (xs.map LItem.it) ∧ Moved 152 w.heap.size s m (w.alloc (.cells #[.string s, .int .i64 0] 152)) wr ∧ ItemsAt (w.heap.size + 1) wr v xs)
  case atStart => exact ⟨0, s.size + 1, [], rfl, by omega, by omega, by simp, rfl, Moved.refl (unhide HR), World.ownsRow_nil _ _ _ _, by simp⟩
  case round =>
    obtain ⟨m, f, xs, hg, hf, hm, hlen, hpl, hmv, hit⟩ := hrel
    clear HR
    have hpm := nextP_le hm
    have hge := nextP_ge s m
    obtain ⟨g', rfl⟩ : ∃ g', f = g' + 1 := ⟨f - 1, by omega⟩
    obtain ⟨lo, ln, lc, rfl⟩ := owns_form hit.1
    have A : Aside (gk = s.size - m ∧ planR s = itemsR s (g' + 1) m (xs.map LItem.it) ∧ Moved 152 w.heap.size s m (w.alloc (.cells #[.string s, .int .i64 0] 152)) wr ∧ ItemsAt (w.heap.size + 1) wr (.slice lo ln lc) xs) := ⟨hg, hpl, hmv, hit⟩
    clear hg hpl hmv hit
    by_cases h1 : nextP s m = s.size
    · have HF : Hid (planR s = .inr (xs.map LItem.it)) := hide (by rw [A.out.2.1, itemsR, if_pos h1])
      have hde : decide (nextP s m = s.size) = true := by simpa using h1
      have HD := hide hde
      clear h1 hde
      go_wp2_with (go_at_call 89; refine (ended_any _ _ m _ (by exact A.out.2.2.1.rd) hs hm).mono ?_; rintro e w2 ⟨rfl, hm2⟩; rw [unhide HD]; have HN := hide hm2; clear hm2)
      go_ret
      exact Or.inr ⟨_, HF.out, _, xs, rfl, rfl, (A.out.2.2.1.trans (unhide HN)).below_of, A.out.2.2.2.moved (unhide HN) (by omega)⟩
    · have HG : Hid (planR s = match itemR s (nextP s m) with | .inl p => .inl p | .inr (it, q) => itemsR s g' q (xs.map LItem.it ++ [it])) := hide (by rw [A.out.2.1, itemsR, if_neg h1])
      have hde : decide (nextP s m = s.size) = false := by simpa using h1
      have HD := hide hde
      clear h1 hde
      go_wp2_with (go_at_call 89; refine (ended_any _ _ m _ (by exact A.out.2.2.1.rd) hs hm).mono ?_; rintro e w2 ⟨rfl, hm2⟩; rw [unhide HD]; have HN := hide hm2; clear hm2)
      refine (item_any _ _ _ _ (unhide HN).rd hs hpm).mono ?_
      rintro e w3 (⟨p, hd, rfl, m3, hm3⟩ | ⟨it, q, hd, co, cn, cc, ro, rn, rc, vs, rfl, hm3, hia⟩)
      · have HF : Hid (planR s = .inl p) := hide (by rw [unhide HG, hd])
        have HS := hide ((A.out.2.2.1.trans (unhide HN)).trans hm3)
        clear hd hm3
        go_wp2
        exact ⟨rfl, Or.inl ⟨_, HF.out, rfl, (unhide HS).below_of⟩⟩
      · have HF : Hid (planR s = itemsR s g' q (List.map LItem.it (xs ++ [(⟨it, .slice co cn cc, .slice ro rn rc, vs⟩ : LItem)]))) := hide (by rw [unhide HG, hd]; simp)
        have hbd := itemR_bd hpm hd
        have HS := hide ((A.out.2.2.1.trans (unhide HN)).trans hm3)
        have hw2 : w.heap.size + 1 ≤ w2.heap.size := by have := (A.out.2.2.1.trans (unhide HN)).size; simp at this; omega
        have HA := hide (hia.base hw2)
        have HL := hide ((A.out.2.2.2.moved (unhide HN) (by omega)).moved hm3 (by omega))
        have hw3 : w.heap.size + 1 ≤ w3.heap.size := by have := hm3.size; omega
        clear hd hm3 hia
        simp only [iv, icells]
        go_wp2_with (at_builtin; refine wpList_append_own _ rfl _ _ 85 rfl (w.heap.size + 1) 119 i0 _ 7 96 Tryz.underlying85 hi hz0 hz1 hz2 rfl (by decide) _ _ _ rfl ((unhide HL).1.alloc _) ⟨w3.heap.size, 0, none⟩ 1 1 (itCells ⟨it, .slice co cn cc, .slice ro rn rc, vs⟩) rfl rfl (World.news_of_block (cs := icells it (.slice co cn cc) (.slice ro rn rc)) (t := 119) (fr := (0, 0)) (heap_alloc_new w3 _)) ?c2 ?c3 ?c4 ?c5 ?_)
        case c2 => intro u hu; simp [itCells, icells] at hu; rcases hu with rfl | rfl | rfl | rfl | rfl | rfl | rfl <;> rfl
        case c3 => unfold maxLen; omega
        case c4 => omega
        case c5 => simp; omega
        · intro v' w5 hown5 hgrow _
          have HM5 : Hid (Moved 152 w.heap.size s q (w.alloc (.cells #[.string s, .int .i64 0] 152)) w5) := ((unhide HS).alloc _).grown hgrow (fun j hj => by have := ((unhide HL).1.lt j hj).1; simpa using this) (by simp)
          have HL5 := hide ((unhide HL).push (unhide HA) hgrow hown5 rfl)
          clear hown5 hgrow
          go_wp2
          go_roundg (s.size - q)
          case measure => have := A.out.1; omega
          case rel => exact ⟨q, g', xs ++ [⟨it, .slice co cn cc, .slice ro rn rc, vs⟩], rfl, by omega, by omega, by simp; omega, HF.out, unhide HM5, unhide HL5⟩

end Go.Proofs.YthnggjaecngbiaaGreatDoor

