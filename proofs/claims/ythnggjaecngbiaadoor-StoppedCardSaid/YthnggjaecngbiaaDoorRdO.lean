import Derived.Test.YthnggjaecngbiaaDoorRdN
namespace Go.Proofs.YthnggjaecngbiaaDoor
open Go.RowKit

def itemR (s : ByteArray) (k : Nat) : Res PItem :=
  if (s.extract (nextP s k) (lowEnd s (nextP s k))).toList == [105, 110] then inputR s (lowEnd s (nextP s k))
  else if (s.extract (nextP s k) (lowEnd s (nextP s k))).toList == [116, 97, 98, 108, 101] then tableR s (lowEnd s (nextP s k))
  else .inl (nextP s k)

/-- An item with where its columns, its rules and their tests lie. -/
structure LItem where
  it : PItem
  cv : Value
  rv : Value
  vs : List Value

def ItemAt (base : Nat) (w : World) (x : LItem) : Prop :=
  w.ownsRow base 9 1 x.cv x.it.cols.length (x.it.cols.map Value.string) ∧ RulesAt base w x.rv x.vs x.it.rules
def itCells (x : LItem) : List Value := (icells x.it x.cv x.rv).toList
def ItemsAt (base : Nat) (w : World) (v : Value) (xs : List LItem) : Prop :=
  w.ownsRow base 47 7 v xs.length (xs.flatMap itCells) ∧ ∀ x ∈ xs, ItemAt base w x

theorem ItemAt.keep {w w' : World} {base : Nat} {x : LItem} (h : ItemAt base w x) (k : ∀ (g : Nat) (c : Array Value) (e : TypeId), e = 9 ∨ e = 64 ∨ e = 74 → base ≤ g → w.heap[g]? = some (.cells c e) → w'.heap[g]? = w.heap[g]?) : ItemAt base w' x :=
  ⟨owns_keep h.1 (fun g c hb hg => k g c _ (by simp) hb hg), h.2.keep (fun g c hb hg => k g c _ (by simp) hb hg) (fun g c hb hg => k g c _ (by simp) hb hg)⟩
theorem ItemAt.moved {b : Nat} {s : ByteArray} {m : Nat} {w w' : World} {base : Nat} {x : LItem} (h : ItemAt base w x) (g : Moved 54 b s m w w') (hb : b < base) : ItemAt base w' x :=
  ⟨owns_moved h.1 g hb, h.2.moved g hb⟩
theorem ItemAt.base {w : World} {base base' : Nat} {x : LItem} (h : ItemAt base w x) (hb : base' ≤ base) : ItemAt base' w x :=
  ⟨owns_base h.1 hb, h.2.1, owns_base h.2.2.1 hb, fun y hy => owns_base (h.2.2.2 y hy) hb⟩
theorem ItemsAt.moved {b : Nat} {s : ByteArray} {m : Nat} {w w' : World} {base : Nat} {v : Value} {xs : List LItem} (h : ItemsAt base w v xs) (g : Moved 54 b s m w w') (hb : b < base) : ItemsAt base w' v xs :=
  ⟨owns_moved h.1 g hb, fun x hx => (h.2 x hx).moved g hb⟩
theorem ItemsAt.push {w w' : World} {base : Nat} {v v' : Value} {xs : List LItem} {x : LItem} {o : Obj} {n : Nat} (h : ItemsAt base w v xs) (hx : ItemAt base w x) (g : (w.alloc o).grownBy w' v.ownBlock) (hv : w'.ownsRow base 47 7 v' n (xs.flatMap itCells ++ itCells x)) (hn : n = xs.length + 1) : ItemsAt base w' v' (xs ++ [x]) := by
  subst hn
  have keep : ∀ (gg : Nat) (c : Array Value) (e : TypeId), e = 9 ∨ e = 64 ∨ e = 74 → base ≤ gg → w.heap[gg]? = some (.cells c e) → w'.heap[gg]? = w.heap[gg]? := fun gg c e he _ hc => by
    have hne := owns_ne h.1 hc (by rcases he with rfl | rfl | rfl <;> decide)
    rw [g.block gg (by have := lt_of_block hc; simp; omega) (fun e => hne e.symm), Below.heap_alloc _ _ _ (lt_of_block hc)]
  refine ⟨by simpa using hv, ?_⟩
  intro y hy
  simp at hy
  rcases hy with hy | rfl
  · exact (h.2 y hy).keep keep
  · exact hx.keep keep

set_option maxRecDepth 100000 in
set_option maxHeartbeats 1600000 in
theorem item_any (b : Nat) (s : ByteArray) (k : Nat) (w : World) (hr : Rd 54 b s k w) (hs : s.size ≤ 1000) (hk : k ≤ s.size) :
    Calls Tryd.prog 19 #[.pointer (some ⟨b, 0, none⟩)] w fun e w' => (∃ p, itemR s k = .inl p ∧ e = .panicked [{ v := .iface 36 (.agg #[.int .i64 (p : Int)]), recovered := false }] ∧ ∃ m, Moved 54 b s m w w') ∨ (∃ it q, itemR s k = .inr (it, q) ∧ ∃ co cn cc ro rn rc vs, e = .returned (iv it (.slice co cn cc) (.slice ro rn rc)) ∧ Moved 54 b s q w w' ∧ ItemAt w.heap.size w' ⟨it, .slice co cn cc, .slice ro rn rc, vs⟩) := by
  have hp := nextP_le hk
  have hq := lowEnd_le hp
  have hlt := hr.lt
  have H := hide hr
  clear hr
  have hpp : nextP s (nextP s k) = nextP s k := nextP_idem hk
  have HP := hide hpp
  clear hpp
  go_enter Tryd.func19, Tryd.ntmps19
  go_wp2_with (go_at_call 27; refine (next_any _ _ k _ (by exact (unhide H).alloc _) hs hk).mono ?_; rintro e w1 ⟨rfl, hm1⟩; have HM := hide hm1; clear hm1)
  refine (word_any _ _ _ _ (unhide HM).rd hs hp).mono ?_
  rintro e w2 ⟨rfl, hm2⟩
  rw [unhide HP] at hm2 ⊢
  have HN := hide ((unhide HM).trans hm2)
  clear hm2 HM HP H
  cases h1 : ((s.extract (nextP s k) (lowEnd s (nextP s k))).toList == [105, 110]) with
  | true =>
    have HG : Hid (itemR s k = inputR s (lowEnd s (nextP s k))) := hide (by unfold itemR; rw [if_pos h1])
    generalize hx : s.extract (nextP s k) (lowEnd s (nextP s k)) = x at *
    clear hx
    go_wp2_with fail
    refine (input_any _ _ _ _ (unhide HN).rd hs hq).mono ?_
    rintro e w3 (⟨p, hd, rfl, m, hm3⟩ | ⟨it, q, hd, hisT, hco, hru, rfl, hm3⟩)
    · have HF : Hid (itemR s k = .inl p) := hide (by rw [unhide HG, hd])
      have HS := hide ((unhide HN).trans hm3)
      clear hd hm3
      go_wp2
      exact ⟨rfl, Or.inl ⟨_, HF.out, rfl, _, (unhide HS).of_alloc⟩⟩
    · have HF : Hid (itemR s k = .inr (it, q) ∧ it.cols = [] ∧ it.rules = []) := ⟨by rw [unhide HG, hd], hco, hru⟩
      have HS := hide ((unhide HN).trans hm3)
      clear hd hm3 hco hru hisT
      obtain ⟨⟨d0, d1, d2, d3, d4, d5, d6⟩, g0, g1, g2, g3, g4, g5, g6⟩ := cells7 ((unhide HS).kept hlt)
      simp only [iv, icells, noSl]
      go_wp2
      refine bodyPost_ret (v := iv it noSl noSl) ?_ rfl ?_
      · simp [results, Tryd.results19, go_sem, iv, icells, noSl, d0, d1, d2, d3, d4, d5, d6]
      refine Or.inr ⟨_, _, HF.out.1, none, 0, 0, none, 0, 0, [], rfl, (unhide HS).of_alloc.put7 (Nat.le_refl _) hlt _ _ _ _ _ _ _, ?_, ?_⟩
      · simp only [HF.out.2.1]; exact World.ownsRow_nil _ _ _ _
      · simp only [HF.out.2.2]; exact RulesAt.nil _ _
  | false =>
    cases h2 : ((s.extract (nextP s k) (lowEnd s (nextP s k))).toList == [116, 97, 98, 108, 101]) with
    | true =>
      have HG : Hid (itemR s k = tableR s (lowEnd s (nextP s k))) := hide (by unfold itemR; rw [if_neg (by rw [h1]; simp), if_pos h2])
      generalize hx : s.extract (nextP s k) (lowEnd s (nextP s k)) = x at *
      clear hx
      go_wp2_with fail
      refine (table_any _ _ _ _ (unhide HN).rd hs hq).mono ?_
      rintro e w3 (⟨p, hd, rfl, m, hm3⟩ | ⟨it, q, hd, hisT, cv, rv0, vs, rfl, hm3, hco, hru⟩)
      · have HF : Hid (itemR s k = .inl p) := hide (by rw [unhide HG, hd])
        have HS := hide ((unhide HN).trans hm3)
        clear hd hm3
        go_wp2
        exact ⟨rfl, Or.inl ⟨_, HF.out, rfl, _, (unhide HS).of_alloc⟩⟩
      · have HF : Hid (itemR s k = .inr (it, q)) := hide (by rw [unhide HG, hd])
        have HS := hide ((unhide HN).trans hm3)
        obtain ⟨co, cn, cc, rfl⟩ := owns_form hco
        obtain ⟨ro, rn, rc, rfl⟩ := owns_form hru.2.1
        have hsz : w.heap.size ≤ w2.heap.size := by have := (unhide HN).size; simp at this; omega
        have HA : Hid (ItemAt w.heap.size w3 ⟨it, .slice co cn cc, .slice ro rn rc, vs⟩) := ItemAt.base ⟨hco, hru⟩ hsz
        clear hd hm3 hco hru hisT
        have hr0 := (unhide HS).kept hlt
        obtain ⟨⟨d0, d1, d2, d3, d4, d5, d6⟩, g0, g1, g2, g3, g4, g5, g6⟩ := cells7 hr0
        have HR0 := hide hr0
        clear hr0
        simp only [iv, icells]
        go_wp2
        refine bodyPost_ret (v := iv it (.slice co cn cc) (.slice ro rn rc)) ?_ rfl ?_
        · simp [results, Tryd.results19, go_sem, iv, icells, d0, d1, d2, d3, d4, d5, d6]
        refine Or.inr ⟨_, _, HF.out, _, _, _, _, _, _, vs, rfl, (unhide HS).of_alloc.put7 (Nat.le_refl _) hlt _ _ _ _ _ _ _, ?_, ?_⟩
        · exact own7 (unhide HA).1 (unhide HR0) (by decide)
        · exact ⟨(unhide HA).2.1, own7 (unhide HA).2.2.1 (unhide HR0) (by decide), fun x hx => own7 ((unhide HA).2.2.2 x hx) (unhide HR0) (by decide)⟩
    | false =>
      have HG : Hid (itemR s k = .inl (nextP s k)) := hide (by unfold itemR; rw [if_neg (by rw [h1]; simp), if_neg (by rw [h2]; simp)])
      generalize hx : s.extract (nextP s k) (lowEnd s (nextP s k)) = x at *
      clear hx
      go_wp2_with fail
      exact ⟨rfl, Or.inl ⟨_, HG.out, rfl, _, (unhide HN).of_alloc⟩⟩

end Go.Proofs.YthnggjaecngbiaaDoor
