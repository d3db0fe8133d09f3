import Derived.Test.YtdgbmcbkbkbdoaaGreatDoorRfH
namespace Go.Proofs.YtdgbmcbkbkbdoaaGreatDoor
open Go.RowKit

theorem colsR_fuel (s : ByteArray) : ∀ (f g k : Nat) (xs : List ByteArray), k ≤ s.size → s.size + 1 - k ≤ f → s.size + 1 - k ≤ g → colsR s f k xs = colsR s g k xs := by
  intro f
  induction f with
  | zero => intro g k ts hk hf hg; omega
  | succ f ih =>
    intro g k xs hk hf hg
    obtain ⟨g', rfl⟩ : ∃ g', g = g' + 1 := ⟨g - 1, by omega⟩
    simp only [colsR]
    split
    · rename_i h
      have hlt := inR_lt (by omega) h
      have hge := nextP_ge s k
      cases hn : nameR s (nextP s k + 1) with
      | inl p => rfl
      | inr tq =>
        obtain ⟨t, q⟩ := tq
        have hbd := nameR_bd (by omega) hn
        exact ih g' q _ hbd.2.1 (by omega) (by omega)
    · rfl
def headC (s : ByteArray) (k : Nat) (xs : List ByteArray) : Res (List ByteArray) :=
  match nameR s k with
  | .inl p => .inl p
  | .inr (x, q) => colsR s (s.size + 1 - q) q (xs ++ [x])
theorem headC_next {s : ByteArray} {k : Nat} (hk : k ≤ s.size) (xs : List ByteArray) : headC s (nextP s k) xs = headC s k xs := by
  unfold headC; rw [nameR_next hk]
theorem headC_comma {s : ByteArray} {q : Nat} {xs : List ByteArray} (hq : q ≤ s.size) (h : inR s (nextP s q) 44 44 = true) : colsR s (s.size + 1 - q) q xs = headC s (nextP s q + 1) xs := by
  obtain ⟨f, hf⟩ : ∃ f, s.size + 1 - q = f + 1 := ⟨s.size - q, by omega⟩
  have hlt := inR_lt (by omega) h
  have hge := nextP_ge s q
  rw [hf]
  simp only [colsR]
  rw [if_pos h]
  unfold headC
  cases hn : nameR s (nextP s q + 1) with
  | inl p => rfl
  | inr tq =>
    obtain ⟨t, q'⟩ := tq
    have hbd := nameR_bd (by omega) hn
    exact colsR_fuel s _ _ _ _ hbd.2.1 (by omega) (by omega)
theorem headC_end {s : ByteArray} {q : Nat} {xs : List ByteArray} (hq : q ≤ s.size) (h : inR s (nextP s q) 44 44 = false) : colsR s (s.size + 1 - q) q xs = if inR s (nextP s q) 41 41 then .inr (xs, nextP s q + 1) else .inl (nextP s q) := by
  obtain ⟨f, hf⟩ : ∃ f, s.size + 1 - q = f + 1 := ⟨s.size - q, by omega⟩
  rw [hf]
  simp only [colsR]
  rw [if_neg (by rw [h]; simp)]
theorem columnsR_head {s : ByteArray} {k : Nat} (h : inR s (nextP s k) 40 40 = true) : columnsR s k = headC s (nextP s k + 1) [] := by
  unfold columnsR headC
  rw [if_pos h]
  rfl
theorem ruleR_next {s : ByteArray} {k : Nat} (hk : k ≤ s.size) : ruleR s (nextP s k) = ruleR s k := by
  unfold ruleR; rw [testR_next hk]
theorem rulesR_fuel (s : ByteArray) : ∀ (f g k : Nat) (it : PItem), k ≤ s.size → s.size + 1 - k ≤ f → s.size + 1 - k ≤ g → rulesR s f k it = rulesR s g k it := by
  intro f
  induction f with
  | zero => intro g k it hk hf hg; omega
  | succ f ih =>
    intro g k it hk hf hg
    obtain ⟨g', rfl⟩ : ∃ g', g = g' + 1 := ⟨g - 1, by omega⟩
    simp only [rulesR]
    split
    · rfl
    · have hle := nextP_le hk
      have hge := nextP_ge s k
      cases hn : ruleR s (nextP s k) with
      | inl p => rfl
      | inr tq =>
        obtain ⟨t, q⟩ := tq
        have hbd := ruleR_bd hle hn
        exact ih g' q _ hbd.2 (by omega) (by omega)
theorem rulesR_next {s : ByteArray} {k : Nat} (hk : k ≤ s.size) (it : PItem) : rulesR s (s.size + 1 - k) k it = rulesR s (s.size + 1 - nextP s k) (nextP s k) it := by
  have hle := nextP_le hk
  have hge := nextP_ge s k
  rw [rulesR_fuel s (s.size + 1 - nextP s k) (s.size + 1 - k) _ _ hle (by omega) (by omega)]
  obtain ⟨f, hf⟩ : ∃ f, s.size + 1 - k = f + 1 := ⟨s.size - k, by omega⟩
  rw [hf]
  simp only [rulesR]
  rw [nextP_idem hk]
theorem rulesR_close {s : ByteArray} {k : Nat} {it : PItem} (hk : k ≤ s.size) (hb : nextP s k = k) (h : inR s k 125 125 = true) : rulesR s (s.size + 1 - k) k it = .inr (it, k + 1) := by
  obtain ⟨f, hf⟩ : ∃ f, s.size + 1 - k = f + 1 := ⟨s.size - k, by omega⟩
  rw [hf]
  simp only [rulesR]
  rw [hb, if_pos h]
theorem rulesR_no {s : ByteArray} {k p : Nat} {it : PItem} (hk : k ≤ s.size) (hb : nextP s k = k) (h : inR s k 125 125 = false) (hr : ruleR s k = .inl p) : rulesR s (s.size + 1 - k) k it = .inl p := by
  obtain ⟨f, hf⟩ : ∃ f, s.size + 1 - k = f + 1 := ⟨s.size - k, by omega⟩
  rw [hf]
  simp only [rulesR]
  rw [hb, if_neg (by rw [h]; simp), hr]
theorem rulesR_step {s : ByteArray} {k q : Nat} {it : PItem} {r : PRule} (hk : k ≤ s.size) (hb : nextP s k = k) (h : inR s k 125 125 = false) (hr : ruleR s k = .inr (r, q)) : rulesR s (s.size + 1 - k) k it = rulesR s (s.size + 1 - nextP s q) (nextP s q) { it with rules := it.rules ++ [r] } := by
  obtain ⟨f, hf⟩ : ∃ f, s.size + 1 - k = f + 1 := ⟨s.size - k, by omega⟩
  have hbd := ruleR_bd hk hr
  rw [← rulesR_next hbd.2, hf]
  simp only [rulesR]
  rw [hb, if_neg (by rw [h]; simp), hr]
  exact rulesR_fuel s _ _ _ _ hbd.2 (by omega) (by omega)
def tabC (s : ByteArray) (x : ByteArray) (c : Int) : Res (List ByteArray) → Res PItem
  | .inl p => .inl p
  | .inr (xs, q) => dropsR s q ⟨x, true, 0, c, xs, 0, []⟩
theorem Tryz.info_rrule : (Tryz.prog.info? 171).map (fun i => (i.zero, i.size, i.bytes)) = some (some (.agg #[.slice none 0 0, .int .i64 0]), 2, 32) := by kernel_rfl
theorem tlOf_push {vs : List Value} {rs : List PRule} (h : vs.length = rs.length) (v : Value) (r : PRule) : tlOf (vs ++ [v]) (rs ++ [r]) = tlOf vs rs ++ [(v, r.tests.length, rtsCells r.tests)] := by
  unfold tlOf; rw [List.zip_append h]; simp
theorem rrule_yes (b : Nat) (s : ByteArray) (k : Nat) (far : Bool) (w : World) (hr : RR b s k false far w) (hs : s.size ≤ 1000) (hk : k ≤ s.size) (hb : nextP s k = k) {r : PRule} {q : Nat} (h : ruleR s k = .inr (r, q)) :
    Calls Tryz.prog 126 #[.pointer (some ⟨b, 0, none⟩)] w fun e w' => ∃ o n c, e = .returned (.agg #[.slice o n c, .int .i64 r.num]) ∧ Mv b w w' ∧ RR b s (nextP s q) false (far || farRule r) w' ∧ w'.ownsRow w.heap.size 173 4 (.slice o n c) r.tests.length (rtsCells r.tests) := by
  refine (rrule_any b s k far w hr hs hk hb).mono ?_
  rintro e w' (⟨p, h1, _⟩ | ⟨v', q', h1, h2⟩)
  · rw [h] at h1; cases h1
  · rw [h] at h1; cases h1; exact h2
theorem rrule_no (b : Nat) (s : ByteArray) (k : Nat) (far : Bool) (w : World) (hr : RR b s k false far w) (hs : s.size ≤ 1000) (hk : k ≤ s.size) (hb : nextP s k = k) {p : Nat} (h : ruleR s k = .inl p) :
    Calls Tryz.prog 126 #[.pointer (some ⟨b, 0, none⟩)] w fun e w' => ∃ o n c z far', e = .returned (.agg #[.slice o n c, .int .i64 z]) ∧ Mv b w w' ∧ RR b s p true far' w' := by
  refine (rrule_any b s k far w hr hs hk hb).mono ?_
  rintro e w' (⟨p, h1, ⟨o, n, c, z, h2⟩, h3, far', h4⟩ | ⟨v', q', h1, h2⟩)
  · rw [h] at h1; cases h1; exact ⟨o, n, c, z, far', h2, h3, h4⟩
  · rw [h] at h1; cases h1
theorem isPol_cases {c : Int} (h : isPol c = true) : c = 85 ∨ c = 70 ∨ c = 83 ∨ c = 78 ∨ c = 80 := by unfold isPol at h; simpa using h
theorem isPol_not {c : Int} (h : isPol c = false) : ¬ c = 85 ∧ ¬ c = 70 ∧ ¬ c = 83 ∧ ¬ c = 78 ∧ ¬ c = 80 := by unfold isPol at h; simpa using h

theorem marksR_ne {s : ByteArray} {k d q : Nat} (h : marksR s k = .inr (d, q)) : d ≠ 0 := by
  unfold marksR at h
  split at h
  · cases h
  · cases h; assumption

set_option maxRecDepth 8000 in
set_option maxHeartbeats 25600000 in
theorem rtable_no (b : Nat) (s : ByteArray) (k : Nat) (far : Bool) (w : World) (hr : RR b s k false far w) (hs : s.size ≤ 1000) (hk : k ≤ s.size) (hb : nextP s k = k) {p : Nat} (hn : nameR s k = .inl p) :
    Calls Tryz.prog 98 #[.pointer (some ⟨b, 0, none⟩)] w fun e w' => (∃ p, tableR s k = .inl p ∧ (∃ nm mk po dr co cn cc ro rn rc, e = .returned (.agg #[.string nm, .int .i64 mk, .int .u8 po, .bool dr, .slice co cn cc, .slice ro rn rc])) ∧ Mv b w w' ∧ ∃ far', RR b s p true far' w') ∨ (∃ it q, tableR s k = .inr (it, q) ∧ ∃ co cn cc ro rn rc vs, e = .returned (.agg (ricells it (.slice co cn cc) (.slice ro rn rc))) ∧ Mv b w w' ∧ RR b s (nextP s q) false (far || farItem it) w' ∧ RItemAt w.heap.size w' ⟨it, .slice co cn cc, .slice ro rn rc, vs⟩) := by
  have hbl := hr.lt
  obtain ⟨i0, hi, hz0, hz1, hz2⟩ := info_parts Tryz.info_string
  obtain ⟨j0, ki, kz0, kz1, kz2⟩ := info_parts Tryz.info_rrule
  have HS := hide (II.start hr _ _ rfl rfl)
  clear hr
  go_enter Tryz.func98, Tryz.ntmps98
  go_wp2_with fail
  have HI := HS
  clear HS
  obtain ⟨⟨c0, c1, c2, c3, c4, c5⟩, f0, f1, f2, f3, f4, f5⟩ := (unhide HI).cells
  obtain ⟨⟨d0, d1, d2, d3, d4, d5⟩, g0, g1, g2, g3, g4, g5⟩ := (unhide HI).cells0
  simp only [IR.zero] at c0 c1 c2 c3 c4 c5
  have HF : Hid (tableR s k = .inl p) := hide (by unfold tableR; rw [hn])
  refine (rname_no b s k far _ (unhide HI).rr hs hk hb hn).mono ?_
  rintro e w3 ⟨rfl, hm3, hr3⟩
  have HJ := hide ((unhide HI).moved hm3 hr3)
  clear HI c0 c1 c2 c3 c4 c5 f0 f1 f2 f3 f4 f5 d0 d1 d2 d3 d4 d5 g0 g1 g2 g3 g4 g5
  have HI := HJ
  clear HJ
  obtain ⟨⟨c0, c1, c2, c3, c4, c5⟩, f0, f1, f2, f3, f4, f5⟩ := (unhide HI).cells
  obtain ⟨⟨d0, d1, d2, d3, d4, d5⟩, g0, g1, g2, g3, g4, g5⟩ := (unhide HI).cells0
  simp only [IR.zero] at c0 c1 c2 c3 c4 c5
  clear hm3 hr3
  clear hn
  have b2 := (unhide HI).rr.badC
  have q2 := (unhide HI).rr.free 2
  go_wp2_with (go_at_call 121; refine (rhere_any _ _ p true far _ (by exact ((unhide HI).set0 _).rr)).mono ?_; rintro e w' ⟨rfl, j, rfl⟩; rw [hv_bad])
  exact bodyPost_ret (v := .agg #[.string ByteArray.empty, .int .i64 0, .int .u8 0, .bool false, .slice none 0 0, .slice none 0 0]) (by simp [results, Tryz.results98, go_sem, d0, d1, d2, d3, d4, d5]) rfl (Or.inl ⟨p, unhide HF, ⟨_, _, _, _, _, _, _, _, _, _, rfl⟩, (((((unhide HI).set0 _).drewN _).setBad true).done _ _ _ _ _ _ rfl).1, _, (((((unhide HI).set0 _).drewN _).setBad true).done _ _ _ _ _ _ rfl).2.1⟩)

set_option maxRecDepth 8000 in
set_option maxHeartbeats 25600000 in
theorem rtable_pol (b : Nat) (s : ByteArray) (k : Nat) (far : Bool) (w : World) (hr : RR b s k false far w) (hs : s.size ≤ 1000) (hk : k ≤ s.size) (hb : nextP s k = k) {x : ByteArray} {q : Nat} (hn : nameR s k = .inr (x, q)) (hpol : isPol (byteAt s (nextP s q)) = false) :
    Calls Tryz.prog 98 #[.pointer (some ⟨b, 0, none⟩)] w fun e w' => (∃ p, tableR s k = .inl p ∧ (∃ nm mk po dr co cn cc ro rn rc, e = .returned (.agg #[.string nm, .int .i64 mk, .int .u8 po, .bool dr, .slice co cn cc, .slice ro rn rc])) ∧ Mv b w w' ∧ ∃ far', RR b s p true far' w') ∨ (∃ it q, tableR s k = .inr (it, q) ∧ ∃ co cn cc ro rn rc vs, e = .returned (.agg (ricells it (.slice co cn cc) (.slice ro rn rc))) ∧ Mv b w w' ∧ RR b s (nextP s q) false (far || farItem it) w' ∧ RItemAt w.heap.size w' ⟨it, .slice co cn cc, .slice ro rn rc, vs⟩) := by
  have hbl := hr.lt
  obtain ⟨i0, hi, hz0, hz1, hz2⟩ := info_parts Tryz.info_string
  obtain ⟨j0, ki, kz0, kz1, kz2⟩ := info_parts Tryz.info_rrule
  have HS := hide (II.start hr _ _ rfl rfl)
  clear hr
  go_enter Tryz.func98, Tryz.ntmps98
  go_wp2_with fail
  have HI := HS
  clear HS
  obtain ⟨⟨c0, c1, c2, c3, c4, c5⟩, f0, f1, f2, f3, f4, f5⟩ := (unhide HI).cells
  obtain ⟨⟨d0, d1, d2, d3, d4, d5⟩, g0, g1, g2, g3, g4, g5⟩ := (unhide HI).cells0
  simp only [IR.zero] at c0 c1 c2 c3 c4 c5
  have hnb := nameR_bd hk hn
  have hpq := nextP_le hnb.2.1
  refine (rname_yes b s k far _ (unhide HI).rr hs hk hb hn).mono ?_
  rintro e w3 ⟨rfl, hm3, hr3⟩
  have HJ := hide ((unhide HI).moved hm3 hr3)
  clear HI c0 c1 c2 c3 c4 c5 f0 f1 f2 f3 f4 f5 d0 d1 d2 d3 d4 d5 g0 g1 g2 g3 g4 g5
  have HI := HJ
  clear HJ
  obtain ⟨⟨c0, c1, c2, c3, c4, c5⟩, f0, f1, f2, f3, f4, f5⟩ := (unhide HI).cells
  obtain ⟨⟨d0, d1, d2, d3, d4, d5⟩, g0, g1, g2, g3, g4, g5⟩ := (unhide HI).cells0
  simp only [IR.zero] at c0 c1 c2 c3 c4 c5
  clear hm3 hr3
  have HN := hide hn
  clear hn
  generalize hm1 : nextP s q = m1 at *
  have HM1 := hide hm1
  clear hm1
  have HF : Hid (tableR s k = .inl m1) := hide (by unfold tableR; rw [unhide HN]; simp only; unfold policyR; rw [unhide HM1, hpol]; rfl)
  obtain ⟨p1, p2, p3, p4, p5⟩ := isPol_not hpol
  have e1 : (hv s m1 false == 85) = false := hv_ne (by omega) (by rw [inR_one]; simpa using p1)
  have n1 : (hv s m1 false != 85) = true := by simp only [bne, e1]; rfl
  have e2 : (hv s m1 false == 70) = false := hv_ne (by omega) (by rw [inR_one]; simpa using p2)
  have n2 : (hv s m1 false != 70) = true := by simp only [bne, e2]; rfl
  have e3 : (hv s m1 false == 83) = false := hv_ne (by omega) (by rw [inR_one]; simpa using p3)
  have n3 : (hv s m1 false != 83) = true := by simp only [bne, e3]; rfl
  have e4 : (hv s m1 false == 78) = false := hv_ne (by omega) (by rw [inR_one]; simpa using p4)
  have n4 : (hv s m1 false != 78) = true := by simp only [bne, e4]; rfl
  have e5 : (hv s m1 false == 80) = false := hv_ne (by omega) (by rw [inR_one]; simpa using p5)
  have n5 : (hv s m1 false != 80) = true := by simp only [bne, e5]; rfl
  clear hpol p1 p2 p3 p4 p5
  generalize hx : hv s m1 false = z at *
  have HX := hide hx
  clear hx
  have b2 := (unhide HI).rr.badC
  have q2 := (unhide HI).rr.free 2
  go_wp2_with (go_at_call 121; refine (rhere_any _ _ m1 false _ _ (by exact ((unhide HI).set0 _).rr)).mono ?_; rintro e w' ⟨rfl, j, rfl⟩; rw [unhide HX])
  exact bodyPost_ret (v := .agg #[.string x, .int .i64 0, .int .u8 0, .bool false, .slice none 0 0, .slice none 0 0]) (by simp [results, Tryz.results98, go_sem, d0, d1, d2, d3, d4, d5]) rfl (Or.inl ⟨m1, unhide HF, ⟨_, _, _, _, _, _, _, _, _, _, rfl⟩, (((((unhide HI).set0 _).drewN _).setBad true).done _ _ _ _ _ _ rfl).1, _, (((((unhide HI).set0 _).drewN _).setBad true).done _ _ _ _ _ _ rfl).2.1⟩)
end Go.Proofs.YtdgbmcbkbkbdoaaGreatDoor
