import Derived.Test.YthnggjaecngbiaaGreatDoorSrH
namespace Go.Proofs.YthnggjaecngbiaaGreatDoor
open Go.RowKit
def seekP (cols : List ByteArray) (rs : List PRule) (many : Bool) : Nat → List Int → Option (List Int)
 | 0, v => if isSought many (metP rs (valsN v)).length then some v else none
 | d + 1, v => (mergedP cols rs v.length).findSome? fun y => if mayP cols v y then seekP cols rs many d (v ++ [y]) else none
theorem valsN_len (v : List Int) : (valsN v).length = v.length := by simp [valsN]
theorem valsN_app (v : List Int) (y : Int) : (valsN (v ++ [y])).flatMap vcells = (valsN v).flatMap vcells ++ [.int .i64 0, .int .i64 y] := by simp [valsN, vcells]
theorem mayTo_succ (cols : List ByteArray) (v : List Int) (y : Int) (j : Nat) : mayTo cols v y (j + 1) = (mayTo cols v y j && (!sameName (cols.getD j noName) (cols.getD v.length noName) || decide (v.getD j 0 = y))) := by
 unfold mayTo
 rw [List.range_succ, List.all_append]
 simp
set_option maxRecDepth 100000 in
set_option maxHeartbeats 3200000 in
theorem seek_leaf (x : LItem) (many : Bool) (v : List Int) (vv0 : Value) (w : World) (hx : RItemV w x) (hl : x.it.rules.length ≤ 8) (hc : x.it.cols.length ≤ 3) (hwd : ∀ r ∈ x.it.rules, r.tests.length = x.it.cols.length ∧ ∀ t ∈ r.tests, WfT t)
  (hv : SlAt w 2 vv0 (valsN v).length ((valsN v).flatMap vcells)) (hvl : v.length = x.it.cols.length) :
  Calls Tryz.prog 119 #[riv x, vv0, .bool many] w fun e w' => ∃ sl, e = .returned (.tuple #[sl, .bool (isSought many (metP x.it.rules (valsN v)).length)]) ∧ Below w.heap.size w w' ∧ SlAt w' 1 sl v.length (ints v) := by
 obtain ⟨co, cc, hcv⟩ := hx.2.1.form
 obtain ⟨ro, rc, hrv⟩ := hx.2.2.1.form
 have hriv : riv x = .agg #[.string x.it.name, .int .i64 (rmarks x.it), .int .u8 x.it.policy, .bool (rdrops x.it), .slice co x.it.cols.length cc, .slice ro x.it.rules.length rc] := by
  unfold riv ricells
  rw [hcv, hrv]
 have HMET : Hid (∀ (w' : World), RItemV w' x → SlAt w' 2 vv0 (valsN v).length ((valsN v).flatMap vcells) → Calls Tryz.prog 117 #[.agg #[.string x.it.name, .int .i64 (rmarks x.it), .int .u8 x.it.policy, .bool (rdrops x.it), .slice co x.it.cols.length cc, .slice ro x.it.rules.length rc], vv0] w' fun e w'' => ∃ v', e = .returned v' ∧ Below w'.heap.size w' w'' ∧ w''.ownsRow w'.heap.size 3 1 v' (metP x.it.rules (valsN v)).length (nats (metP x.it.rules (valsN v)))) := hide (fun w' h1 h2 => by
  rw [← hriv]
  exact rmet_any x vv0 _ w' h1 (by omega) (fun r hr => ⟨by rw [valsN_len, hvl]; exact (hwd r hr).1, (hwd r hr).2⟩) h2 (by rw [valsN_len]; omega))
 rw [hriv]
 obtain ⟨bo, bc, rfl⟩ := hv.form
 have HX := hide hx
 have HV := hide hv
 have hlen : v.length ≤ 3 := by omega
 rw [valsN_len] at HV HMET ⊢
 clear hx hv hriv hcv hrv hwd
 generalize x.it.name = nm at *
 generalize rmarks x.it = mi at *
 generalize rdrops x.it = db at *
 generalize x.it.policy = pol at *
 obtain ⟨nc, hnc⟩ : ∃ nc, x.it.cols.length = nc := ⟨_, rfl⟩
 rw [hnc] at HMET hvl ⊢
 clear hnc hc
 subst hvl
 have hml := metTo_len x.it.rules (valsN v) x.it.rules.length
 have hmm : (metP x.it.rules (valsN v)).length ≤ 8 := by unfold metP; omega
 obtain ⟨mt, hmt⟩ : ∃ mt, metP x.it.rules (valsN v) = mt := ⟨_, rfl⟩
 rw [hmt] at HMET hmm ⊢
 clear hmt hml
 generalize x.it.rules.length = rn at *
 obtain ⟨w1, hw1⟩ : ∃ w1, w1 = w.alloc (.cells #[.string nm, .int .i64 mi, .int .u8 pol, .bool db, .slice co v.length cc, .slice ro rn rc] 141) := ⟨_, rfl⟩
 have HB1 : Hid (Below w.heap.size w w1) := hide (by rw [hw1]; exact (Below.refl _ w).alloc (Nat.le_refl _) _)
 have HN1 : Hid (w1.heap[w.heap.size]? = some (.cells #[.string nm, .int .i64 mi, .int .u8 pol, .bool db, .slice co v.length cc, .slice ro rn rc] 141)) := hide (by rw [hw1]; exact alloc_last w _)
 obtain ⟨i0, hi, hz0, hz1, hz2⟩ := info_parts Tryz.info_int
 go_enter Tryz.func119, Tryz.ntmps119
 go_wp2_with fail
 rw [← hw1]
 clear hw1
 refine (uh HMET _ ((uh HX).below (uh HB1)) ((uh HV).below (uh HB1))).mono ?_
 rintro e w2 ⟨mv, rfl, hb2, ho2⟩
 obtain ⟨mo, mc, rfl⟩ := (SlAt.of_owns ho2).form
 have HB2 := hide (below_after (uh HB1) hb2)
 clear hb2 ho2
 go_wp2_with fail
 go_loopg [10, 11] v.length (fun g pv iv wr => ∃ j : Nat, j ≤ v.length ∧ g = v.length - j ∧ iv = .int .i64 (j : Int) ∧ Below w2.heap.size w2 wr ∧ wr.ownsRow w2.heap.size 3 1 pv j (ints (v.take j)))
 case atStart => exact ⟨0, by omega, rfl, rfl, Below.refl _ _, World.ownsRow_nil _ _ _ _⟩
 case round =>
  obtain ⟨j, hj, hg, rfl, hb, hown⟩ := hrel
  have A : Aside (gk = v.length - j ∧ Below w2.heap.size w2 wr ∧ wr.ownsRow w2.heap.size 3 1 u10 j (ints (v.take j))) := ⟨hg, hb, hown⟩
  have hbw := below_after (uh HB2) hb
  have hsz := hb.size
  clear hg
  by_cases hlt : j < v.length
  ·obtain ⟨g3, rfl, l0, l1, hg3⟩ := ((uh HV).below hbw).at2 hlt
   have hv1 := flat_at vcells 2 (fun _ => rfl) (valsN v) j 1 (by rw [valsN_len]; exact hlt) (by omega)
   rw [hv1] at l1
   simp only [vcells, List.getElem?_cons_zero, List.getElem?_cons_succ, valsN, List.getElem_map] at l1
   have HST : Hid (ints (v.take (j + 1)) = ints (v.take j) ++ [.int .i64 v[j]]) := hide (by unfold ints; rw [List.take_succ_eq_append_getElem hlt, List.map_append]; rfl)
   have hjc : (j : Int) < v.length := by omega
   generalize v[j] = y at *
   clear hb hown hv1 hbw l0
   go_wp2_with (at_builtin; refine wpList_append_lies _ (by rfl) _ _ _ (by rfl) w2.heap.size 3 i0 _ 1 8 Tryz.underlying25 hi hz0 hz1 hz2 rfl (by decide) u10 j (ints (v.take j)) (by rfl) (A.out.2.2.alloc _) ⟨wr.heap.size, 0, none⟩ 1 1 [.int .i64 y] (by rfl) (by rfl) (World.news_of_block (cs := #[.int .i64 y]) (t := 3) (fr := (0, 0)) (heap_alloc_new wr _)) (by simp [Value.oneCell']) (by decide) (by unfold maxLen; omega) (by omega) (by simp; omega) (wr.heap.size + 1) (by simp) ?_; intro gg cap w8 hown8 hgrow8 hat8 hlt8; have AB := hide (And.intro (below_grown (A.out.2.1.alloc hsz _) hgrow8 (fun q hq => (A.out.2.2.lt q hq).1)) hown8); clear hown8 hgrow8 hat8 hlt8)
   go_roundg (v.length - (j + 1))
   case measure => have := A.out.1; omega
   case rel => exact ⟨j + 1, by omega, rfl, by go_num, (uh AB).1, by rw [uh HST]; exact (uh AB).2⟩
  ·have hje : j = v.length := by omega
   subst hje
   have hjc : ¬ ((v.length : Nat) : Int) < v.length := by omega
   rw [List.take_length] at hown
   have HO := hide hown
   have HBW := hide hbw
   clear hb hown hbw A
   cases many
   ·by_cases h0 : mt.length = 0
    ·have h00 : ((mt.length : Int) == 0) = true := by rw [h0]; rfl
     have HSO : Hid (isSought false mt.length = true) := hide (by rw [h0]; rfl)
     clear h0
     go_wp2_with fail
     go_ret2
     rw [uh HSO]
     exact ⟨_, rfl, uh HBW, SlAt.of_owns (uh HO)⟩
    ·have h00 : ((mt.length : Int) == 0) = false := by rw [beq_eq_false_iff_ne]; omega
     have HSO : Hid (isSought false mt.length = false) := hide (by simp [isSought, h0])
     go_wp2_with fail
     go_ret2
     rw [uh HSO]
     exact ⟨_, rfl, uh HBW, SlAt.of_owns (uh HO)⟩
   ·by_cases h0 : 1 < mt.length
    ·have h00 : (1 : Int) < mt.length := by omega
     have HSO : Hid (isSought true mt.length = true) := hide (by simp [isSought, h0])
     go_wp2_with fail
     go_ret2
     rw [uh HSO]
     exact ⟨_, rfl, uh HBW, SlAt.of_owns (uh HO)⟩
    ·have h00 : ¬ (1 : Int) < mt.length := by omega
     have HSO : Hid (isSought true mt.length = false) := hide (by simp [isSought]; omega)
     go_wp2_with fail
     go_ret2
     rw [uh HSO]
     exact ⟨_, rfl, uh HBW, SlAt.of_owns (uh HO)⟩
end Go.Proofs.YthnggjaecngbiaaGreatDoor
namespace Go.Proofs.YthnggjaecngbiaaGreatDoor
open Go.RowKit
theorem placedP_cons (x : Int) (l : List Int) (n : Int) : placedP (x :: l) n = if x < n then x :: placedP l n else if x = n then x :: l else n :: x :: l := by
 unfold placedP atP
 by_cases h : x < n
 ·rw [if_pos h]
  simp only [List.takeWhile_cons, h, decide_true, if_true, List.length_cons, List.getElem?_cons_succ, List.take_succ_cons, List.drop_succ_cons]
  split <;> simp
 ·rw [if_neg h]
  simp only [List.takeWhile_cons, h, decide_false]
  simp
theorem placedP_nil (n : Int) : placedP [] n = [n] := by simp [placedP, atP]
theorem placedP_mem {n x : Int} : ∀ {l : List Int}, x ∈ placedP l n ↔ x ∈ l ∨ x = n
 | [] => by rw [placedP_nil]; simp
 | y :: l => by
  rw [placedP_cons]
  split
  ·rw [List.mem_cons, placedP_mem, List.mem_cons, or_assoc]
  ·split
   ·rename_i h
    constructor
    ·exact Or.inl
    ·rintro (h1 | h1)
     ·exact h1
     ·rw [h1, ← h]; exact List.mem_cons_self
   ·rw [List.mem_cons]
    exact Or.comm
theorem placedP_sorted {n : Int} : ∀ {l : List Int}, l.Pairwise (· < ·) → (placedP l n).Pairwise (· < ·)
 | [], _ => by rw [placedP_nil]; simp
 | y :: l, h => by
  rw [List.pairwise_cons] at h
  rw [placedP_cons]
  split
  ·rw [List.pairwise_cons]
   refine ⟨fun x hx => ?_, placedP_sorted h.2⟩
   rcases placedP_mem.1 hx with h1 | h1
   ·exact h.1 x h1
   ·omega
  ·split
   ·rw [List.pairwise_cons]; exact h
   ·rw [List.pairwise_cons, List.pairwise_cons]
    refine ⟨fun x hx => ?_, h⟩
    rcases List.mem_cons.1 hx with h1 | h1
    ·omega
    ·have := h.1 x h1; omega
def InOrder (l : List Int) : Prop := l.Pairwise (· < ·) ∧ ∀ x ∈ l, -1000000 ≤ x ∧ x ≤ 1000000
theorem InOrder.placed {l : List Int} {n : Int} (h : InOrder l) (hn : -1000000 ≤ n ∧ n ≤ 1000000) : InOrder (placedP l n) := ⟨placedP_sorted h.1, fun x hx => by
 rcases placedP_mem.1 hx with h1 | h1
 ·exact h.2 x h1
 ·rw [h1]; exact hn⟩
theorem InOrder.fold : ∀ {m l : List Int}, InOrder l → (∀ n ∈ m, -1000000 ≤ n ∧ n ≤ 1000000) → InOrder (m.foldl placedP l)
 | [], _, h, _ => h
 | n :: m, _, h, hm => InOrder.fold (m := m) (h.placed (hm n List.mem_cons_self)) fun x hx => hm x (List.mem_cons_of_mem _ hx)
theorem InOrder.steps : ∀ {m l : List Int}, InOrder l → InOrder (m.foldl stepP l)
 | [], _, h => h
 | n :: m, l, h => InOrder.steps (m := m) (by
  unfold stepP
  split
  ·exact h.placed (by assumption)
  ·exact h)
theorem fold_mem {x : Int} : ∀ {m l : List Int}, x ∈ m.foldl placedP l ↔ x ∈ l ∨ x ∈ m
 | [], l => by simp
 | n :: m, l => by
  rw [List.foldl_cons, fold_mem, placedP_mem, List.mem_cons, or_assoc]
theorem steps_old {x : Int} : ∀ {m l : List Int}, x ∈ l → x ∈ m.foldl stepP l
 | [], _, h => h
 | n :: m, l, h => steps_old (m := m) (by
  unfold stepP
  split
  ·exact placedP_mem.2 (Or.inl h)
  ·exact h)
theorem steps_new {x : Int} (hx : -1000000 ≤ x ∧ x ≤ 1000000) : ∀ {m l : List Int}, x ∈ m → x ∈ m.foldl stepP l
 | n :: m, l, h => by
  rcases List.mem_cons.1 h with e | e
  ·refine steps_old (m := m) ?_
   unfold stepP
   rw [← e, if_pos hx]
   exact placedP_mem.2 (Or.inr rfl)
  ·exact steps_new (m := m) hx e
theorem rules_order (k : Nat) : ∀ {rs : List PRule} {l : List Int}, InOrder l → InOrder (rs.foldl (fun o r => (fourP (r.tests.getD k noTest)).foldl stepP o) l)
 | [], _, h => h
 | _ :: rs, _, h => rules_order k (rs := rs) h.steps
theorem rules_old (k : Nat) {x : Int} : ∀ {rs : List PRule} {l : List Int}, x ∈ l → x ∈ rs.foldl (fun o r => (fourP (r.tests.getD k noTest)).foldl stepP o) l
 | [], _, h => h
 | _ :: rs, _, h => rules_old k (rs := rs) (steps_old h)
theorem rules_new (k : Nat) {x : Int} (hx : -1000000 ≤ x ∧ x ≤ 1000000) : ∀ {rs : List PRule} {l : List Int} {r : PRule}, r ∈ rs → x ∈ fourP (r.tests.getD k noTest) → x ∈ rs.foldl (fun o r => (fourP (r.tests.getD k noTest)).foldl stepP o) l
 | r0 :: rs, l, r, hr, h => by
  rcases List.mem_cons.1 hr with e | e
  ·subst e
   exact rules_old k (rs := rs) (steps_new hx h)
  ·exact rules_new k (rs := rs) hx e h
theorem places_order (rs : List PRule) (k : Nat) : InOrder (placesP rs k) := by
 unfold placesP placesTo
 exact rules_order k ⟨by simp, fun x hx => by simp at hx; omega⟩
theorem places_low (rs : List PRule) (k : Nat) : -1000000 ∈ placesP rs k := by
 unfold placesP placesTo
 exact rules_old k (by simp)
theorem places_turn {rs : List PRule} {k : Nat} {r : PRule} (hr : r ∈ rs) {x : Int} (hx : -1000000 ≤ x ∧ x ≤ 1000000) (h : x ∈ fourP (r.tests.getD k noTest)) : x ∈ placesP rs k := by
 unfold placesP placesTo
 rw [List.take_length]
 exact rules_new k hx hr h
theorem mergedTo_step (cols : List ByteArray) (rs : List PRule) (k j : Nat) : mergedTo cols rs k (j + 1) = if sameName (cols.getD j noName) (cols.getD k noName) then (placesP rs j).foldl placedP (mergedTo cols rs k j) else mergedTo cols rs k j := by
 unfold mergedTo
 rw [List.range_succ, List.foldl_append]
 rfl
theorem merged_order (cols : List ByteArray) (rs : List PRule) (k : Nat) : ∀ j, InOrder (mergedTo cols rs k j)
 | 0 => ⟨by simp [mergedTo], fun x hx => by simp [mergedTo] at hx⟩
 | j + 1 => by
  rw [mergedTo_step]
  split
  ·exact (merged_order cols rs k j).fold (places_order rs j).2
  ·exact merged_order cols rs k j
theorem merged_mem {cols : List ByteArray} {rs : List PRule} {k i : Nat} {x : Int} (hc : cols.getD i noName = cols.getD k noName) (hx : x ∈ placesP rs i) : ∀ {j}, i < j → x ∈ mergedTo cols rs k j
 | 0, h => absurd h (Nat.not_lt_zero _)
 | j + 1, h => by
  rw [mergedTo_step]
  rcases Nat.lt_or_eq_of_le (Nat.lt_succ_iff.1 h) with h1 | h1
  ·split
   ·exact fold_mem.2 (Or.inl (merged_mem hc hx h1))
   ·exact merged_mem hc hx h1
  ·subst h1
   rw [if_pos ((sameName_iff _ _).2 hc)]
   exact fold_mem.2 (Or.inr hx)
theorem merged_same {cols : List ByteArray} {rs : List PRule} {i k : Nat} (h : cols.getD i noName = cols.getD k noName) : mergedP cols rs i = mergedP cols rs k := by
 unfold mergedP mergedTo
 rw [h]
theorem turns_four (t : PTest) : ∀ c ∈ turnsP t, c ∈ fourP t := by
 intro c hc
 unfold turnsP at hc
 unfold fourP
 repeat' split at hc
 all_goals (simp at hc; try (rcases hc with h | h <;> simp [h])); try simp [hc]
def choiceR (cols : List ByteArray) (rs : List PRule) (v : List Int) : List Int := (mergedP cols rs v.length).filter (mayP cols v)
structure InvR (cols : List ByteArray) (rs : List PRule) (v : List Int) : Prop where
 inv : InvP cols v
 of : ∀ i, i < v.length → v.getD i 0 ∈ mergedP cols rs i
theorem good_seek {cols : List ByteArray} {rs : List PRule} {many : Bool} (hw : ∀ r ∈ rs, r.tests.length = cols.length) : GoodC (wantP rs many) (fitP cols) (choiceR cols rs) (InvR cols rs) cols.length where
 sorted := fun v _ _ => List.Pairwise.filter _ (merged_order cols rs _ _).1
 fits := fun v hi hk y hy => by
  obtain ⟨h1, h2⟩ := List.mem_filter.1 hy
  have hr := (merged_order cols rs v.length cols.length).2 y h1
  have hf : fitP cols v y := ⟨hr.1, hr.2, (mayP_iff cols v y).1 h2⟩
  refine ⟨hf, hi.inv.app hf, fun i hlt => ?_⟩
  rcases Nat.lt_or_ge i v.length with h | h
  ·rw [getD_app_lt h]; exact hi.of i h
  ·have hie : i = v.length := by simp at hlt; omega
   rw [hie, getD_app_at]
   exact h1
 enough := fun d v y hi hk hf he => by
  have hk' : v.length < cols.length := by omega
  rcases earlier_case hk' with ⟨h1, h2⟩ | ⟨j, h1, h2, h3⟩
  ·obtain ⟨z, hz, hzy, hez⟩ := enough_new (L := mergedP cols rs v.length) h2 (merged_mem rfl (places_low rs v.length) hk') (merged_order cols rs _ _).2 (fun r hr i hlt hc c hct hle => by
    rcases Int.lt_or_le c (-1000000) with hlo | hlo
    ·exact Or.inr (Int.le_of_lt hlo)
    ·exact Or.inl (merged_mem hc (places_turn hr ⟨hlo, hle⟩ (turns_four _ c hct)) (by rw [← hw r hr]; exact hlt))) hf he
   exact ⟨z, List.mem_filter.2 ⟨hz, (mayP_iff cols v z).2 fun i hlt hc => absurd hc (h2 i hlt)⟩, hzy, hez⟩
  ·have hy := hf.2.2 j h1 h3
   refine ⟨y, List.mem_filter.2 ⟨?_, (mayP_iff cols v y).2 hf.2.2⟩, Int.le_refl _, he⟩
   rw [← hy, ← merged_same h3]
   exact hi.of j h1
theorem find_filter {p : Int → Bool} {f : Int → Option (List Int)} : ∀ (l : List Int), l.findSome? (fun y => if p y then f y else none) = (l.filter p).findSome? f
 | [] => rfl
 | x :: l => by
  rw [List.findSome?_cons, List.filter_cons]
  cases p x with
  | true => simp only [if_true, List.findSome?_cons]; rw [find_filter l]
  | false => simpa using find_filter l
theorem seekP_search (cols : List ByteArray) (rs : List PRule) (many : Bool) : ∀ (d : Nat) (v : List Int), seekP cols rs many d v = searchC (wantP rs many) (choiceR cols rs) d v
 | 0, _ => rfl
 | d + 1, v => by
  unfold seekP searchC choiceR
  rw [find_filter]
  congr 1
  funext y
  exact seekP_search cols rs many d (v ++ [y])
theorem least_seek {cols : List ByteArray} {rs : List PRule} (many : Bool) (hw : ∀ r ∈ rs, r.tests.length = cols.length) (hl : ∀ r ∈ rs, ∀ t ∈ r.tests, -1000000 ≤ t.low ∧ -1000000 ≤ t.high) : leastP cols rs many cols.length [] = seekP cols rs many cols.length [] := by
 rw [seekP_search]
 exact searchC_same (good_least hl) (good_seek hw) (InvP.nil cols) ⟨InvP.nil cols, fun _ h => by simp at h⟩ (by simp)
end Go.Proofs.YthnggjaecngbiaaGreatDoor
namespace Go.Proofs.YthnggjaecngbiaaGreatDoor
open Go.RowKit
def tryP (cols : List ByteArray) (rs : List PRule) (many : Bool) (d : Nat) (v : List Int) (y : Int) : Option (List Int) := if mayP cols v y then seekP cols rs many d (v ++ [y]) else none
theorem seekP_succ (cols : List ByteArray) (rs : List PRule) (many : Bool) (d : Nat) (v : List Int) : seekP cols rs many (d + 1) v = (mergedP cols rs v.length).findSome? (tryP cols rs many d v) := rfl
theorem find_none_succ {f : Int → Option (List Int)} {l : List Int} {j : Nat} (h : j < l.length) (hn : (l.take j).findSome? f = none) (hx : f l[j] = none) : (l.take (j + 1)).findSome? f = none := by
 rw [List.take_succ_eq_append_getElem h, List.findSome?_append, hn]
 simp [hx]
theorem find_hit {f : Int → Option (List Int)} {l : List Int} {j : Nat} (h : j < l.length) (hn : (l.take j).findSome? f = none) {r : List Int} (hx : f l[j] = some r) : l.findSome? f = some r := by
 have h1 : l.findSome? f = (l.take j ++ l.drop j).findSome? f := by rw [List.take_append_drop]
 rw [h1, List.findSome?_append, hn, List.drop_eq_getElem_cons h, List.findSome?_cons, hx]
 rfl
def SeekOf (cols : List ByteArray) (rs : List PRule) (many : Bool) (d : Nat) (v : List Int) (w : World) (e : Ending) (w' : World) : Prop :=
 ∃ sl, e = .returned (.tuple #[sl, .bool (seekP cols rs many d v).isSome]) ∧ Below w.heap.size w w' ∧ ∀ r, seekP cols rs many d v = some r → SlAt w' 1 sl r.length (ints r)
set_option maxRecDepth 100000 in
set_option maxHeartbeats 6400000 in
theorem seek_any (x : LItem) (many : Bool) (hl : x.it.rules.length ≤ 8) (hc : x.it.cols.length ≤ 3) (hwd : ∀ r ∈ x.it.rules, r.tests.length = x.it.cols.length ∧ ∀ t ∈ r.tests, WfT t) :
  ∀ (d : Nat) (v : List Int) (vv0 : Value) (w : World), RItemV w x → SlAt w 2 vv0 (valsN v).length ((valsN v).flatMap vcells) → v.length + d = x.it.cols.length →
  Calls Tryz.prog 119 #[riv x, vv0, .bool many] w (SeekOf x.it.cols x.it.rules many d v w) := by
 intro d
 induction d with
 | zero =>
  intro v vv0 w hx hv hvl
  refine (seek_leaf x many v vv0 w hx hl hc hwd hv (by omega)).mono fun e w' h => ?_
  obtain ⟨sl, h1, h2, h3⟩ := h
  refine ⟨sl, ?_, h2, fun r hr => ?_⟩
  ·rw [h1]
   unfold seekP
   cases isSought many (metP x.it.rules (valsN v)).length <;> rfl
  ·unfold seekP at hr
   split at hr
   ·simp only [Option.some.injEq] at hr
    rw [← hr]
    exact h3
   ·cases hr
 | succ d ih =>
  intro v vv0 w hx hv hvl
  have hkl : v.length < x.it.cols.length := by omega
  obtain ⟨co, cc, hcv⟩ := hx.2.1.form
  obtain ⟨ro, rc, hrv⟩ := hx.2.2.1.form
  have hriv : riv x = .agg #[.string x.it.name, .int .i64 (rmarks x.it), .int .u8 x.it.policy, .bool (rdrops x.it), .slice co x.it.cols.length cc, .slice ro x.it.rules.length rc] := by
   unfold riv ricells
   rw [hcv, hrv]
  have HMER : Hid (∀ (w' : World), RItemV w' x → Calls Tryz.prog 145 #[.agg #[.string x.it.name, .int .i64 (rmarks x.it), .int .u8 x.it.policy, .bool (rdrops x.it), .slice co x.it.cols.length cc, .slice ro x.it.rules.length rc], .int .i64 (v.length : Int)] w' fun e w'' => ∃ v', e = .returned v' ∧ Below w'.heap.size w' w'' ∧ SlAt w'' 1 v' (mergedP x.it.cols x.it.rules v.length).length (ints (mergedP x.it.cols x.it.rules v.length))) := hide (fun w' h1 => by
   rw [← hriv]
   exact merged_any x v.length w' h1 hl hc hkl hwd)
  have HSEEK : Hid (∀ (w' : World) (y : Int) (nv : Value), RItemV w' x → SlAt w' 2 nv (v.length + 1) ((valsN v).flatMap vcells ++ [.int .i64 0, .int .i64 y]) → Calls Tryz.prog 119 #[.agg #[.string x.it.name, .int .i64 (rmarks x.it), .int .u8 x.it.policy, .bool (rdrops x.it), .slice co x.it.cols.length cc, .slice ro x.it.rules.length rc], nv, .bool many] w' (SeekOf x.it.cols x.it.rules many d (v ++ [y]) w')) := hide (fun w' y nv h1 h2 => by
   rw [← hriv]
   exact ih (v ++ [y]) nv w' h1 (by rw [valsN_app, valsN_len, List.length_append]; exact h2) (by simp; omega))
  have hcs := hx.2.1
  rw [hcv] at hcs
  rw [hriv]
  obtain ⟨bo, bc, rfl⟩ := hv.form
  rw [valsN_len] at hv ⊢
  have HX := hide hx
  have HV := hide hv
  have HC := hide hcs
  have hlen : v.length ≤ 3 := by omega
  have hml := mergedTo_len x.it.cols x.it.rules v.length x.it.cols.length
  have hml2 : (mergedP x.it.cols x.it.rules v.length).length ≤ 99 := Nat.le_trans hml (Nat.le_trans (Nat.mul_le_mul hc (show 1 + 4 * x.it.rules.length ≤ 33 by omega)) (by decide))
  have HSS := hide (seekP_succ x.it.cols x.it.rules many d v)
  clear hx hv hcs hriv hcv hrv hwd ih hml
  generalize x.it.name = nm at *
  generalize rmarks x.it = mi at *
  generalize rdrops x.it = db at *
  generalize x.it.policy = pol at *
  obtain ⟨cs, hcsd⟩ : ∃ cs, x.it.cols = cs := ⟨_, rfl⟩
  obtain ⟨rs, hrsd⟩ : ∃ rs, x.it.rules = rs := ⟨_, rfl⟩
  rw [hcsd] at HMER HSEEK HC HSS hml2 hkl hc ⊢
  rw [hrsd] at HMER HSEEK HSS hml2 ⊢
  obtain ⟨L, hL⟩ : ∃ L, mergedP cs rs v.length = L := ⟨_, rfl⟩
  rw [hL] at HMER HSS hml2
  obtain ⟨rn, hrn⟩ : ∃ rn, rs.length = rn := ⟨_, rfl⟩
  rw [hrn] at HMER HSEEK ⊢
  clear hL hcsd hrsd hl hrn hvl
  obtain ⟨w1, hw1⟩ : ∃ w1, w1 = w.alloc (.cells #[.string nm, .int .i64 mi, .int .u8 pol, .bool db, .slice co cs.length cc, .slice ro rn rc] 141) := ⟨_, rfl⟩
  have HB1 : Hid (Below w.heap.size w w1) := hide (by rw [hw1]; exact (Below.refl _ w).alloc (Nat.le_refl _) _)
  have HN1 : Hid (w1.heap[w.heap.size]? = some (.cells #[.string nm, .int .i64 mi, .int .u8 pol, .bool db, .slice co cs.length cc, .slice ro rn rc] 141)) := hide (by rw [hw1]; exact alloc_last w _)
  have hkne : ((v.length : Int) == cs.length) = false := by rw [beq_eq_false_iff_ne]; omega
  obtain ⟨i0, hi, hz0, hz1, hz2⟩ := info_parts Tryz.info_value
  go_enter Tryz.func119, Tryz.ntmps119
  go_wp2_with fail
  rw [← hw1]
  clear hw1
  refine (uh HMER _ ((uh HX).below (uh HB1))).mono ?_
  rintro e w2 ⟨lv, rfl, hb2, hs2⟩
  obtain ⟨fo, fc, rfl⟩ := hs2.form
  have HB2 := hide (below_after (uh HB1) hb2)
  have HBN2 := hide hb2
  have HL := hide hs2
  clear hb2 hs2
  go_wp2_with fail
  go_loopg [13] L.length (fun g iv wr => ∃ j : Nat, j ≤ L.length ∧ g = L.length - j ∧ iv = .int .i64 (j : Int) ∧ (L.take j).findSome? (tryP cs rs many d v) = none ∧ Below w2.heap.size w2 wr)
  case atStart => exact ⟨0, by omega, rfl, rfl, by simp, Below.refl _ _⟩
  case round =>
   obtain ⟨j, hj, hg, rfl, hno, hb⟩ := hrel
   have A : Aside (gk = L.length - j ∧ (L.take j).findSome? (tryP cs rs many d v) = none ∧ Below w2.heap.size w2 wr) := ⟨hg, hno, hb⟩
   clear hg hno
   by_cases hlt : j < L.length
   ·have hjc : (j : Int) < L.length := by omega
    obtain ⟨gL, rfl, y0, hgL⟩ := (uh HL).at1 hlt
    rw [show (ints L)[j]? = some (.int .i64 L[j]) by simp [ints, hlt]] at y0
    have HNONE := hide (find_none_succ (f := tryP cs rs many d v) hlt A.out.2.1)
    have HHIT : Hid (∀ r, tryP cs rs many d v L[j] = some r → seekP cs rs many (d + 1) v = some r) := hide (fun r hr => by rw [uh HSS]; exact find_hit hlt A.out.2.1 hr)
    generalize L[j] = y at *
    have HBR := hide hb
    clear hb
    have hgk : cs.getD v.length noName = cs[v.length] := getD_at _ _ hkl
    obtain ⟨ck, hck⟩ : ∃ ck, cs[v.length] = ck := ⟨_, rfl⟩
    have HCK : Hid (cs.getD v.length noName = ck) := hide (by rw [hgk, hck])
    have HCK2 : Hid (cs[v.length]? = some ck) := hide (by rw [← hck]; simp [hkl])
    clear hgk hck
    obtain ⟨w3, hw3⟩ : ∃ w3, w3 = wr := ⟨_, rfl⟩
    subst hw3
    go_wp2_with fail
    go_loopg [14, 15] v.length (fun g fv jv wx => ∃ m : Nat, m ≤ v.length ∧ g = v.length - m ∧ jv = .int .i64 (m : Int) ∧ fv = .bool (mayTo cs v y m) ∧ Below w3.heap.size w3 wx)
    case atStart => exact ⟨0, by omega, rfl, rfl, by simp [mayTo], Below.refl _ _⟩
    case round =>
     obtain ⟨m, hm, hg, rfl, rfl, hb⟩ := hrel
     have B : Aside (gk = v.length - m ∧ Below w3.heap.size w3 wr) := ⟨hg, hb⟩
     clear hg
     have hb2 := below_after (uh HBR) hb
     have hbw := below_after (uh HB2) hb2
     have hN3 := (hb2.block _ (lt_of_block ((uh HBN2).block _ (lt_of_block (uh HN1)) ▸ (uh HN1) : w2.heap[w.heap.size]? = _))).trans (((uh HBN2).block _ (lt_of_block (uh HN1))).trans (uh HN1))
     obtain ⟨_, _, _, _, e4, _⟩ := cells6b hN3
     have hse := lt_of_block hN3
     have y1 := (hb2.cell (p := ⟨gL, j, none⟩) hgL).trans y0
     have hgL' : gL < wr.heap.size := Nat.lt_of_lt_of_le hgL hb2.size
     by_cases hmt : m < v.length
     ·have hmc : m < cs.length := by omega
      obtain ⟨gc, rfl, cm, hgc⟩ := ((uh HC).below hbw).at1 hmc
      obtain ⟨gc', hgc', cck, -⟩ := ((uh HC).below hbw).at1 hkl
      simp only [Option.some.injEq, Addr.mk.injEq, and_true] at hgc'
      rw [← hgc'] at cck
      rw [show (cs.map Value.string)[m]? = some (.string cs[m]) by simp [hmc]] at cm
      rw [List.getElem?_map, uh HCK2, Option.map_some] at cck
      obtain ⟨g3, rfl, -, l1, hg3⟩ := ((uh HV).below hbw).at2 hmt
      have hv1 := flat_at vcells 2 (fun _ => rfl) (valsN v) m 1 (by rw [valsN_len]; exact hmt) (by omega)
      rw [hv1] at l1
      simp only [vcells, List.getElem?_cons_zero, List.getElem?_cons_succ, valsN, List.getElem_map] at l1
      have hst := mayTo_succ cs v y m
      rw [getD_at _ _ hmc, uh HCK, getD_at _ _ hmt] at hst
      have HST := hide hst
      have hmv : (m : Int) < v.length := by omega
      have hmcc : (m : Int) < cs.length := by omega
      have hkc : (v.length : Int) < cs.length := by omega
      obtain ⟨cmv, hcm⟩ : ∃ cmv, cs[m] = cmv := ⟨_, rfl⟩
      rw [hcm] at cm HST
      generalize v[m] = z at *
      obtain ⟨r0, hr0⟩ : ∃ r0, mayTo cs v y m = r0 := ⟨_, rfl⟩
      rw [hr0] at HST ⊢
      clear hb hb2 hbw hN3 hgc' hcm hst hv1 hr0
      cases r0 with
      | false =>
       go_wp2_with fail
       go_region
       all_goals
        go_wp2
        go_roundg (v.length - (m + 1))
        case measure => have := B.out.1; omega
        case rel => exact ⟨m + 1, by omega, rfl, by go_num, by rw [uh HST]; first | rfl | simp_all, B.out.2.drew⟩
      | true =>
       cases hp : sameName cmv ck with
       | false =>
        have hp2 : (cmv.toList == ck.toList) = false := hp
        rw [hp] at HST
        clear hp
        go_wp2_with fail
        go_region
        all_goals
         go_wp2
         go_roundg (v.length - (m + 1))
         case measure => have := B.out.1; omega
         case rel => exact ⟨m + 1, by omega, rfl, by go_num, by rw [uh HST]; first | rfl | simp_all, B.out.2.drew⟩
       | true =>
        have hp2 : (cmv.toList == ck.toList) = true := hp
        rw [hp] at HST
        clear hp
        by_cases hzy : z = y
        ·have hz2 : (z == y) = true := by simpa using hzy
         have HD : Hid (decide (z = y) = true) := hide (by simpa using hzy)
         rw [uh HD] at HST
         clear hzy
         go_wp2_with fail
         go_region
         all_goals
          go_wp2
          go_roundg (v.length - (m + 1))
          case measure => have := B.out.1; omega
          case rel => exact ⟨m + 1, by omega, rfl, by go_num, by rw [uh HST]; first | rfl | simp_all, B.out.2.drew⟩
        ·have hz2 : (z == y) = false := by simpa using hzy
         have HD : Hid (decide (z = y) = false) := hide (by simpa using hzy)
         rw [uh HD] at HST
         clear hzy
         go_wp2_with fail
         go_region
         all_goals
          go_wp2
          go_roundg (v.length - (m + 1))
          case measure => have := B.out.1; omega
          case rel => exact ⟨m + 1, by omega, rfl, by go_num, by rw [uh HST]; first | rfl | simp_all, B.out.2.drew⟩
     ·have hme : m = v.length := by omega
      subst hme
      have hmc : ¬ ((v.length : Nat) : Int) < v.length := by omega
      have HTR : Hid (tryP cs rs many d v y = if mayTo cs v y v.length then seekP cs rs many d (v ++ [y]) else none) := hide rfl
      obtain ⟨mb, hmb⟩ : ∃ mb, mayTo cs v y v.length = mb := ⟨_, rfl⟩
      rw [hmb] at HTR ⊢
      have HBX := hide hb
      have HBW := hide hbw
      clear hmb hb hbw hb2 hN3
      cases mb with
      | false =>
       rw [if_neg (by simp)] at HTR
       go_wp2_with fail
       go_roundg (L.length - (j + 1))
       case measure => have := A.out.1; omega
       case rel => exact ⟨j + 1, by omega, rfl, by go_num, uh HNONE (uh HTR), below_after A.out.2.2 (uh HBX)⟩
      | true =>
       rw [if_pos rfl] at HTR
       have HXC : Hid (∀ w', Below w2.heap.size w2 w' → w'.cell? ⟨w.heap.size, 0, none⟩ = some (.string nm) ∧ w'.cell? ⟨w.heap.size, 1, none⟩ = some (.int .i64 mi) ∧ w'.cell? ⟨w.heap.size, 2, none⟩ = some (.int .u8 pol) ∧ w'.cell? ⟨w.heap.size, 3, none⟩ = some (.bool db) ∧ w'.cell? ⟨w.heap.size, 4, none⟩ = some (.slice co cs.length cc) ∧ w'.cell? ⟨w.heap.size, 5, none⟩ = some (.slice ro rn rc)) := hide (fun w' hb' => cells6b ((hb'.block _ (Nat.lt_of_lt_of_le (lt_of_block (uh HN1)) (uh HBN2).size)).trans (((uh HBN2).block _ (lt_of_block (uh HN1))).trans (uh HN1))))
       have hw2s : w.heap.size < w2.heap.size := Nat.lt_of_lt_of_le (lt_of_block (uh HN1)) (uh HBN2).size
       have HB2R := hide (below_after (uh HBR) (uh HBX))
       have HM3 : Hid (v.length + 1 ≤ maxLen) := hide (Nat.le_trans (show v.length + 1 ≤ 4 by omega) (by decide))
       have HM4 : Hid ((v.length + 1) * 16 ≤ 140737488355328) := hide (Nat.le_trans (Nat.mul_le_mul_right 16 (show v.length + 1 ≤ 4 by omega)) (by decide))
       clear e4
       by_cases hv0 : v.length = 0
       ·have HV0 := hide hv0
        have hvn : v = [] := List.eq_nil_of_length_eq_zero hv0
        have HOWN : Hid (wr.ownsRow w2.heap.size 51 2 (.slice none 0 0) v.length ((valsN v).flatMap vcells)) := hide (by rw [hvn]; exact World.ownsRow_nil _ _ _ _)
        clear hv0 hvn
        go_wp2_with (at_builtin; first | (refine wpList_append_nothing (by rfl) _ _ _ (by rfl) 51 i0 Tryz.underlying47 hi bo v.length bc (uh HV0) (by rfl) (by rfl) ?_) | (refine wpList_append_lies _ (by rfl) _ _ _ (by rfl) w2.heap.size 51 i0 _ 2 16 Tryz.underlying47 hi hz0 hz1 hz2 rfl (by decide) (.slice none 0 0) v.length ((valsN v).flatMap vcells) (by rfl) ((uh HOWN).alloc _) ⟨wr.heap.size, 0, none⟩ 1 1 [.int .i64 0, .int .i64 y] (by rfl) (by rfl) (World.news_of_block (cs := #[.int .i64 0, .int .i64 y]) (t := 51) (fr := (0, 0)) (heap_alloc_new wr _)) (by simp [Value.oneCell']) (by decide) (uh HM3) (uh HM4) (Nat.le_trans (uh HB2R).size ((Below.refl _ wr).alloc (Nat.le_refl _) _).size) (wr.heap.size + 1) (by simp) ?_; intro g6 c6 w6 hown7 hgrow7 hat7 hlt7; have BB6 := hide (below_grown ((uh HB2R).alloc (uh HB2R).size _) hgrow7 (fun q hq => ((uh HOWN).lt q hq).1)); have OW6 := hide hown7; obtain ⟨f0, f1, f2, f3, f4, f5⟩ := uh HXC _ (uh BB6); have hs6 : w.heap.size < w6.heap.size := Nat.lt_of_lt_of_le hw2s (uh BB6).size; clear hown7 hgrow7 hat7 hlt7))
        refine (uh HSEEK w6 y _ ((uh HX).below (below_after (uh HB2) (uh BB6))) (SlAt.of_owns (uh OW6))).mono ?_
        rintro e w7 ⟨sl, rfl, hb7, hr7⟩
        have HB7 := hide (below_after (uh BB6) hb7)
        have HR7 := hide hr7
        clear hb7 hr7 f0 f1 f2 f3 f4 f5
        cases hS : seekP cs rs many d (v ++ [y]) with
        | none =>
         have HSN := hide hS
         simp only [Option.isSome_none]
         clear hS
         go_wp2_with fail
         go_roundg (L.length - (j + 1))
         case measure => have := A.out.1; omega
         case rel => exact ⟨j + 1, by omega, rfl, by go_num, uh HNONE (by rw [uh HTR]; exact uh HSN), uh HB7⟩
        | some r =>
         have HSN := hide hS
         simp only [Option.isSome_some]
         clear hS
         go_wp2_with fail
         go_ret2
         have hfin := uh HHIT r (by rw [uh HTR]; exact uh HSN)
         exact ⟨sl, by rw [hfin]; rfl, below_after (uh HB2) (uh HB7), fun r2 hr2 => by
          rw [hfin] at hr2
          simp only [Option.some.injEq] at hr2
          rw [← hr2]
          exact uh HR7 r (uh HSN)⟩
       ·obtain ⟨g3, rfl, -, -, hg3⟩ := ((uh HV).below (uh HBW)).at2 (show 0 < v.length by omega)
        have HVC : Hid (∀ q u, ((valsN v).flatMap vcells)[q]? = some u → wr.cell? ((⟨g3, 0, none⟩ : Addr).add q) = some u) := hide (fun q u hu => by
         rw [Addr.add_lit, Nat.zero_add]
         rcases (uh HV).below (uh HBW) with ⟨h0, _⟩ | ⟨g', c', hv', _, _, _, hx'⟩
         ·omega
         ·simp only [Value.slice.injEq, Option.some.injEq, Addr.mk.injEq, and_true] at hv'
          obtain ⟨rfl, _⟩ := hv'
          have hq : q < ((valsN v).flatMap vcells).length := (List.getElem?_eq_some_iff.1 hu).1
          rw [flat_len vcells 2 (fun _ => rfl), valsN_len] at hq
          rw [hx' q hq]
          exact hu)
        have HVL : Hid (((valsN v).flatMap vcells).length = v.length * 2) := hide (by rw [flat_len vcells 2 (fun _ => rfl), valsN_len])
        have HVO : Hid (∀ u ∈ (valsN v).flatMap vcells, u.oneCell' = true) := hide (fun u hu => by
         obtain ⟨p, _, hp⟩ := List.mem_flatMap.1 hu
         simp only [vcells, List.mem_cons, List.not_mem_nil, or_false] at hp
         rcases hp with rfl | rfl <;> rfl)
        have HVP : Hid (0 < v.length) := hide (by omega)
        have HM1 : Hid (0 + v.length ≤ maxLen) := hide (Nat.le_trans (show 0 + v.length ≤ 4 by omega) (by decide))
        have HM2 : Hid ((0 + v.length) * 16 ≤ 140737488355328) := hide (Nat.le_trans (Nat.mul_le_mul_right 16 (show 0 + v.length ≤ 4 by omega)) (by decide))
        go_wp2_with (at_builtin; first | (refine wpList_append_lies _ (by rfl) _ _ _ (by rfl) w2.heap.size 51 i0 _ 2 16 Tryz.underlying47 hi hz0 hz1 hz2 rfl (by decide) (.slice none 0 0) 0 [] (by rfl) (World.ownsRow_nil _ _ _ _) ⟨g3, 0, none⟩ v.length bc ((valsN v).flatMap vcells) (by rfl) (uh HVL) (uh HVC) (uh HVO) (uh HVP) (uh HM1) (uh HM2) (uh HB2R).size wr.heap.size rfl ?_; intro g5 c5 w5 hown7 hgrow7 hat7 hlt7; simp only [Nat.zero_add, List.nil_append] at hown7; have BB5 := hide (below_grown (uh HB2R) hgrow7 (fun q hq => by simp [Value.ownBlock] at hq)); have OW5 := hide hown7; have y5 := ((uh BB5).cell (p := ⟨gL, j, none⟩) hgL).trans y0; have hg5 : gL < w5.heap.size := Nat.lt_of_lt_of_le hgL (uh BB5).size; clear hown7 hgrow7 hat7 hlt7; simp only [Nat.zero_add]) | (refine wpList_append_lies _ (by rfl) _ _ _ (by rfl) w2.heap.size 51 i0 _ 2 16 Tryz.underlying47 hi hz0 hz1 hz2 rfl (by decide) (.slice (some ⟨g5, 0, none⟩) v.length c5) v.length ((valsN v).flatMap vcells) (by rfl) ((uh OW5).alloc _) ⟨w5.heap.size, 0, none⟩ 1 1 [.int .i64 0, .int .i64 y] (by rfl) (by rfl) (World.news_of_block (cs := #[.int .i64 0, .int .i64 y]) (t := 51) (fr := (0, 0)) (heap_alloc_new w5 _)) (by simp [Value.oneCell']) (by decide) (uh HM3) (uh HM4) (Nat.le_trans (uh BB5).size ((Below.refl _ w5).alloc (Nat.le_refl _) _).size) (w5.heap.size + 1) (by simp) ?_; intro g6 c6 w6 hown7 hgrow7 hat7 hlt7; have BB6 := hide (below_grown ((uh BB5).alloc (uh BB5).size _) hgrow7 (fun q hq => ((uh OW5).lt q hq).1)); have OW6 := hide hown7; obtain ⟨f0, f1, f2, f3, f4, f5⟩ := uh HXC _ (uh BB6); have hs6 : w.heap.size < w6.heap.size := Nat.lt_of_lt_of_le hw2s (uh BB6).size; clear hown7 hgrow7 hat7 hlt7))
        refine (uh HSEEK w6 y _ ((uh HX).below (below_after (uh HB2) (uh BB6))) (SlAt.of_owns (uh OW6))).mono ?_
        rintro e w7 ⟨sl, rfl, hb7, hr7⟩
        have HB7 := hide (below_after (uh BB6) hb7)
        have HR7 := hide hr7
        clear hb7 hr7 f0 f1 f2 f3 f4 f5
        cases hS : seekP cs rs many d (v ++ [y]) with
        | none =>
         have HSN := hide hS
         simp only [Option.isSome_none]
         clear hS
         go_wp2_with fail
         go_roundg (L.length - (j + 1))
         case measure => have := A.out.1; omega
         case rel => exact ⟨j + 1, by omega, rfl, by go_num, uh HNONE (by rw [uh HTR]; exact uh HSN), uh HB7⟩
        | some r =>
         have HSN := hide hS
         simp only [Option.isSome_some]
         clear hS
         go_wp2_with fail
         go_ret2
         have hfin := uh HHIT r (by rw [uh HTR]; exact uh HSN)
         exact ⟨sl, by rw [hfin]; rfl, below_after (uh HB2) (uh HB7), fun r2 hr2 => by
          rw [hfin] at hr2
          simp only [Option.some.injEq] at hr2
          rw [← hr2]
          exact uh HR7 r (uh HSN)⟩
   ·have hje : j = L.length := by omega
    have hjc : ¬ (j : Int) < L.length := by omega
    have HNO : Hid (seekP cs rs many (d + 1) v = none) := hide (by
     have := A.out.2.1
     rw [hje, List.take_length] at this
     rw [uh HSS]
     exact this)
    have HBW := hide (below_after (uh HB2) hb)
    clear hje hb
    go_wp2_with fail
    go_ret2
    exact ⟨_, by rw [uh HNO]; rfl, uh HBW, fun r hr => by rw [uh HNO] at hr; cases hr⟩
end Go.Proofs.YthnggjaecngbiaaGreatDoor
