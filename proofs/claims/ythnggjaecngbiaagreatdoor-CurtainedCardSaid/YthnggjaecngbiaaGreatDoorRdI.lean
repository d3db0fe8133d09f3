import Derived.Test.YthnggjaecngbiaaGreatDoorRdG
import Derived.Deep.RegionLaw
import Derived.Deep.AppendLies
namespace Go.Proofs.YthnggjaecngbiaaGreatDoor
open Go.RowKit

theorem Moved.by {T : TypeId} {b : Nat} {s : ByteArray} {k : Nat} {w w' : World} (h : Moved T b s k w w') : w.grownBy w' (some b) :=
  ⟨h.os, h.tape, h.output, h.size, fun j hj hne => h.block j hj (fun e => hne (by rw [e]))⟩
theorem Moved.grown {T : TypeId} {b : Nat} {s : ByteArray} {k : Nat} {w w' w'' : World} {row : Option Nat} (h : Moved T b s k w w') (g : w'.grownBy w'' row) (hr : ∀ j, row = some j → w.heap.size ≤ j) (hb : b < w.heap.size) : Moved T b s k w w'' :=
  ⟨g.os.trans h.os, g.tape.trans h.tape, g.output.trans h.output, Nat.le_trans h.size g.size, fun j hj hjb => (g.block j (Nat.lt_of_lt_of_le hj h.size) (fun e => by have := hr j e.symm; omega)).trans (h.block j hj hjb), by
    have h1 := h.rd
    have h2 := g.block b h1.lt (fun e => by have := hr b e.symm; omega)
    unfold Rd at h1 ⊢
    rw [h2]; exact h1⟩
theorem owns_moved {T : TypeId} {b : Nat} {s : ByteArray} {k : Nat} {w w' : World} {base : Nat} {e : TypeId} {size : Nat} {v : Value} {n : Nat} {xs : List Value} (h : w.ownsRow base e size v n xs) (g : Moved T b s k w w') (hb : b < base) : w'.ownsRow base e size v n xs := by
  refine h.kept g.by ?_
  cases hv : v.ownBlock with
  | none => exact Or.inl rfl
  | some j => have := (h.lt j hv).1; exact Or.inr (fun e => by simp at e; omega)
theorem owns_base {w : World} {base base' : Nat} {e : TypeId} {size : Nat} {v : Value} {n : Nat} {xs : List Value} (h : w.ownsRow base e size v n xs) (hb : base' ≤ base) : w.ownsRow base' e size v n xs := by
  obtain ⟨h1, h2⟩ := h
  refine ⟨h1, ?_⟩
  rcases h2 with h2 | ⟨g, cap, cur, hv, hg, r⟩
  · exact Or.inl h2
  · exact Or.inr ⟨g, cap, cur, hv, by omega, r⟩

/-- The names behind the first one, and the closing bracket. -/
def colsR (s : ByteArray) : Nat → Nat → List ByteArray → Res (List ByteArray)
  | 0, k, _ => .inl (nextP s k)
  | f + 1, k, xs =>
    if inR s (nextP s k) 44 44 then
      match nameR s (nextP s k + 1) with
      | .inl p => .inl p
      | .inr (x, q) => colsR s f q (xs ++ [x])
    else if inR s (nextP s k) 41 41 then .inr (xs, nextP s k + 1)
    else .inl (nextP s k)

def columnsR (s : ByteArray) (k : Nat) : Res (List ByteArray) :=
  if inR s (nextP s k) 40 40 then
    match nameR s (nextP s k + 1) with
    | .inl p => .inl p
    | .inr (x, q) => colsR s (s.size + 1 - q) q [x]
  else .inl (nextP s k)

theorem nameR_bd {s : ByteArray} {k q : Nat} {x : ByteArray} (hk : k ≤ s.size) (h : nameR s k = .inr (x, q)) : k < q ∧ q ≤ s.size ∧ x.size ≤ 8 := by
  unfold nameR at h
  split at h
  · rename_i hn
    simp only [Sum.inr.injEq, Prod.mk.injEq] at h
    obtain ⟨h1, h2⟩ := h
    subst h1 h2
    have hp := nextP_le hk
    have h3 := lowEnd_ge s (nextP s k)
    have h4 := nextP_ge s k
    have h5 := lowEnd_le hp
    unfold isNameB at hn
    simp at hn
    refine ⟨?_, h5, by rw [ByteArray.size_extract]; omega⟩
    by_cases he : lowEnd s (nextP s k) = nextP s k
    · exfalso
      have := hn.1.1.1.1.1
      rw [he] at this
      exact this (by rw [show s.extract (nextP s k) (nextP s k) = ByteArray.empty from by ext1; simp, ByteArray.toList_eq]; rfl)
    · omega
  · cases h

theorem Tryz.info_string : (Tryz.prog.info? 9).map (fun i => (i.zero, i.size, i.bytes)) = some (some (.string ByteArray.empty), 1, 16) := by kernel_rfl

set_option maxRecDepth 100000 in
set_option maxHeartbeats 1600000 in
theorem columns_any (b : Nat) (s : ByteArray) (k : Nat) (w : World) (hr : Rd 152 b s k w) (hs : s.size ≤ 1000) (hk : k ≤ s.size) :
    Calls Tryz.prog 153 #[.pointer (some ⟨b, 0, none⟩)] w fun e w' => (∃ p, columnsR s k = .inl p ∧ e = .panicked [{ v := .iface 110 (.agg #[.int .i64 (p : Int)]), recovered := false }] ∧ ∃ m, Moved 152 b s m w w') ∨ (∃ xs q, columnsR s k = .inr (xs, q) ∧ ∃ v, e = .returned v ∧ Moved 152 b s q w w' ∧ w'.ownsRow w.heap.size 9 1 v xs.length (xs.map Value.string)) := by
  have hlt := hr.lt
  have hp := nextP_le hk
  have HR := hide (Moved.refl hr)
  clear hr
  obtain ⟨i0, hi, hz0, hz1, hz2⟩ := info_parts Tryz.info_string
  cases h1 : inR s (nextP s k) 40 40 with
  | false =>
    have HF : Hid (columnsR s k = .inl (nextP s k)) := hide (by unfold columnsR; rw [if_neg (by rw [h1]; simp)])
    have H1 := hide h1
    clear h1
    go_enter Tryz.func153, Tryz.ntmps153
    go_wp2_with (go_at_call 151; refine (must_no _ _ k _ _ (by exact (unhide HR).rd) hs hk (by simp) (by exact unhide H1)).mono ?_; rintro e w2 ⟨rfl, hm2⟩; have HN := hide hm2; clear hm2)
    exact ⟨rfl, Or.inl ⟨_, HF.out, rfl, _, unhide HN⟩⟩
  | true =>
    have hlt1 := inR_lt (by omega) h1
    have H1 := hide h1
    clear h1
    go_enter Tryz.func153, Tryz.ntmps153
    go_wp2_with (go_at_call 151; refine (must_yes _ _ k _ _ (by exact (unhide HR).rd) hs hk (by simp) (by exact unhide H1)).mono ?_; rintro e w2 ⟨rfl, hm2⟩; have HN := hide hm2; clear hm2)
    cases hn : nameR s (nextP s k + 1) with
    | inl p =>
      have HF : Hid (columnsR s k = .inl p) := hide (by unfold columnsR; rw [if_pos (unhide H1), hn])
      refine (name_no _ _ _ _ (unhide HN).rd hs (by omega) hn).mono ?_
      rintro e w3 ⟨rfl, m, hm3⟩
      have HO := hide ((unhide HN).trans hm3)
      clear hm3 hn
      go_wp2
      exact ⟨rfl, Or.inl ⟨_, HF.out, rfl, _, unhide HO⟩⟩
    | inr xq =>
      obtain ⟨x, q⟩ := xq
      have hnb := nameR_bd (by omega) hn
      have HF : Hid (columnsR s k = colsR s (s.size + 1 - q) q [x]) := hide (by unfold columnsR; rw [if_pos (unhide H1), hn])
      refine (name_yes _ _ _ _ (unhide HN).rd hs (by omega) hn).mono ?_
      rintro e w3 ⟨rfl, hm3⟩
      have HO := hide ((unhide HN).trans hm3)
      have hsz := (unhide HO).size
      clear hm3 hn HN HR
      go_wp2_with fail
      go_loopg [3] (s.size - q) (fun g v wr => ∃ m xs f, g = s.size - m ∧ s.size + 1 - m ≤ f ∧ m ≤ s.size ∧ xs.length ≤ m ∧ columnsR s k = colsR s f m xs ∧ Moved 152 b s m w wr ∧ wr.ownsRow w.heap.size 9 1 v xs.length (xs.map Value.string))
      case atStart => exact ⟨q, [x], s.size + 1 - q, rfl, Nat.le_refl _, hnb.2.1, by simp; omega, HF.out, (unhide HO).alloc _, World.ownsRow_lit _ #[.string x] 1 hsz (by decide) (by simp)⟩
      case round =>
        obtain ⟨m, xs, f, hg, hf, hm, hlen, hcol, hmv, hown⟩ := hrel
        clear HO HF H1 hnb hlt1
        have hpm := nextP_le hm
        have hge := nextP_ge s m
        have A : Aside (gk = s.size - m ∧ columnsR s k = colsR s f m xs ∧ Moved 152 b s m w wr ∧ wr.ownsRow w.heap.size 9 1 u3 xs.length (xs.map Value.string)) := ⟨hg, hcol, hmv, hown⟩
        clear hg hcol hmv hown
        cases h2 : inR s (nextP s m) 44 44 with
        | true =>
          have hlt2 := inR_lt (by omega) h2
          have H2 := hide h2
          clear h2
          go_wp2_with (go_at_call 149; refine (take_yes _ _ m _ _ (by exact A.out.2.2.1.rd) hs hm (by simp) (by exact unhide H2)).mono ?_; rintro e w2 ⟨rfl, hm2⟩; have HN := hide hm2; clear hm2)
          obtain ⟨hg, hcol, hmv, hown⟩ := A.out
          obtain ⟨g', hg'⟩ : ∃ g', f = g' + 1 := ⟨f - 1, by omega⟩
          rw [hg', colsR, if_pos (unhide H2)] at hcol
          cases hn : nameR s (nextP s m + 1) with
          | inl p =>
            rw [hn] at hcol
            have HF := hide hcol
            clear hcol
            refine (name_no _ _ _ _ (unhide HN).rd hs (by omega) hn).mono ?_
            rintro e w4 ⟨rfl, m', hm4⟩
            have HO := hide ((hmv.trans (unhide HN)).trans hm4)
            clear hm4 hn hg hg' hmv hown
            go_wp2
            exact ⟨rfl, Or.inl ⟨_, HF.out, rfl, _, unhide HO⟩⟩
          | inr yq =>
            obtain ⟨y, q'⟩ := yq
            rw [hn] at hcol
            have hnb := nameR_bd (by omega) hn
            refine (name_yes _ _ _ _ (unhide HN).rd hs (by omega) hn).mono ?_
            rintro e w4 ⟨rfl, hm4⟩
            have hmo := (hmv.trans (unhide HN)).trans hm4
            have hon := owns_moved (owns_moved hown (unhide HN) hlt) hm4 hlt
            have hsz := hmo.size
            have AA : Aside (f = g' + 1 ∧ gk = s.size - m ∧ columnsR s k = colsR s g' q' (xs ++ [y]) ∧ Moved 152 b s q' w w4 ∧ w4.ownsRow w.heap.size 9 1 u3 xs.length (xs.map Value.string)) := ⟨hg', hg, hcol, hmo, hon⟩
            clear hm4 hn hg hg' hmv hown hmo hon hcol A HN
            go_wp2_with (at_builtin; refine wpList_append_own _ rfl _ _ 53 rfl w.heap.size 9 i0 (.string ByteArray.empty) 1 16 Tryz.underlying53 hi hz0 hz1 hz2 rfl (by decide) _ _ _ rfl (AA.out.2.2.2.2.alloc _) ⟨w4.heap.size, 0, none⟩ 1 1 [.string y] rfl rfl ?c1 ?c2 ?c3 ?c4 ?c5 ?_)
            case c1 =>
              intro j u hj
              match j, hj with
              | 0, hj => simp at hj; subst hj; simp [Addr.add]
            case c2 => intro u hu; simp at hu; subst hu; rfl
            case c3 => unfold maxLen; omega
            case c4 => omega
            case c5 => simp; omega
            · intro v' w5 hown5 hgrow _
              have hmv5 : Moved 152 b s q' w w5 := (AA.out.2.2.2.1.alloc _).grown hgrow (fun j hj => (AA.out.2.2.2.2.lt j hj).1) hlt
              have AB : Aside (Moved 152 b s q' w w5 ∧ w5.ownsRow w.heap.size 9 1 v' (xs.length + 1) (xs.map Value.string ++ [.string y])) := ⟨hmv5, hown5⟩
              clear hown5 hgrow hmv5
              go_wp2
              go_roundg (s.size - q')
              case measure => have := AA.out.2.1; omega
              case rel =>
                obtain ⟨hg', hg, hcol, _, _⟩ := AA.out
                exact ⟨q', xs ++ [y], g', rfl, by omega, by omega, by simp; omega, hcol, AB.out.1, by simpa using AB.out.2⟩
        | false =>
          have hid := nextP_idem hm
          have HI := hide hid
          have H2 := hide h2
          clear hid
          cases h3 : inR s (nextP s m) 41 41 with
          | true =>
            have HF : Hid (columnsR s k = .inr (xs, nextP s m + 1)) := hide (by
              rw [A.out.2.1]
              obtain ⟨g', rfl⟩ : ∃ g', f = g' + 1 := ⟨f - 1, by omega⟩
              rw [colsR, if_neg (by rw [h2]; simp), if_pos h3])
            have H3 : Hid (inR s (nextP s (nextP s m)) 41 41 = true) := hide (by rw [unhide HI]; exact h3)
            clear h2 h3
            go_wp2_with (first | (go_at_call 149; refine (take_no _ _ m _ _ (by exact A.out.2.2.1.rd) hs hm (by simp) (by exact unhide H2)).mono ?_; rintro e w2 ⟨rfl, hm2⟩; have HN := hide hm2; clear hm2) | (go_at_call 151; refine (must_yes _ _ (nextP s m) _ _ (by exact (unhide HN).rd) hs hpm (by simp) (by exact unhide H3)).mono ?_; rintro e w3 ⟨rfl, hm3⟩; have HO := hide hm3; clear hm3))
            go_ret
            have h4 := unhide HO
            rw [unhide HI] at h4
            refine Or.inr ⟨xs, nextP s m + 1, HF.out, _, rfl, (A.out.2.2.1.trans (unhide HN)).trans h4, ?_⟩
            exact owns_moved (owns_moved A.out.2.2.2 (unhide HN) hlt) h4 hlt
          | false =>
            have HF : Hid (columnsR s k = .inl (nextP s m)) := hide (by
              rw [A.out.2.1]
              obtain ⟨g', rfl⟩ : ∃ g', f = g' + 1 := ⟨f - 1, by omega⟩
              rw [colsR, if_neg (by rw [h2]; simp), if_neg (by rw [h3]; simp)])
            have H3 : Hid (inR s (nextP s (nextP s m)) 41 41 = false) := hide (by rw [unhide HI]; exact h3)
            clear h2 h3
            go_wp2_with (first | (go_at_call 149; refine (take_no _ _ m _ _ (by exact A.out.2.2.1.rd) hs hm (by simp) (by exact unhide H2)).mono ?_; rintro e w2 ⟨rfl, hm2⟩; have HN := hide hm2; clear hm2) | (go_at_call 151; refine (must_no _ _ (nextP s m) _ _ (by exact (unhide HN).rd) hs hpm (by simp) (by exact unhide H3)).mono ?_; rintro e w3 ⟨rfl, hm3⟩; have HO := hide hm3; clear hm3))
            have h4 := unhide HO
            rw [unhide HI] at h4 ⊢
            exact ⟨rfl, Or.inl ⟨_, HF.out, rfl, _, (A.out.2.2.1.trans (unhide HN)).trans h4⟩⟩

end Go.Proofs.YthnggjaecngbiaaGreatDoor

namespace Go.Proofs.YthnggjaecngbiaaGreatDoor
open Go.RowKit

theorem test_yes (b : Nat) (s : ByteArray) (k : Nat) (w : World) (hr : Rd 152 b s k w) (hs : s.size ≤ 1000) (hk : k ≤ s.size) {t : PTest} {q : Nat} (h : testR s k = .inr (t, q)) :
    Calls Tryz.prog 176 #[.pointer (some ⟨b, 0, none⟩)] w fun e w' => e = .returned (tv t) ∧ Moved 152 b s q w w' := by
  refine (test_any b s k w hr hs hk).mono ?_
  rintro e w' (⟨p, hd, _⟩ | ⟨t', q', hd, he, hm⟩)
  · rw [h] at hd; cases hd
  · rw [h] at hd
    simp only [Sum.inr.injEq, Prod.mk.injEq] at hd
    obtain ⟨rfl, rfl⟩ := hd
    exact ⟨he, hm⟩
theorem test_no (b : Nat) (s : ByteArray) (k : Nat) (w : World) (hr : Rd 152 b s k w) (hs : s.size ≤ 1000) (hk : k ≤ s.size) {p : Nat} (h : testR s k = .inl p) :
    Calls Tryz.prog 176 #[.pointer (some ⟨b, 0, none⟩)] w fun e w' => e = .panicked [{ v := .iface 110 (.agg #[.int .i64 (p : Int)]), recovered := false }] ∧ ∃ m, Moved 152 b s m w w' := by
  refine (test_any b s k w hr hs hk).mono ?_
  rintro e w' (⟨p', hd, he, m, hm⟩ | ⟨t', q', hd, _⟩)
  · rw [h] at hd
    simp only [Sum.inl.injEq] at hd
    subst hd
    exact ⟨he, m, hm⟩
  · rw [h] at hd; cases hd

def tcells (t : PTest) : List Value := [.int .i64 (t.nots : Int), .int .i64 t.kind, .int .i64 t.low, .int .i64 t.high]
def tsCells (ts : List PTest) : List Value := ts.flatMap tcells

structure PRule where
  tests : List PTest
  num : Int

/-- The tests behind the first one, the sign, the number and the end. -/
def ruleEnd (s : ByteArray) (k : Nat) (ts : List PTest) : Res PRule :=
  if inR s (nextP s k) 61 61 then
    match numberR s (nextP s k + 1) with
    | .inl p => .inl p
    | .inr (v, q) => if inR s (nextP s q) 59 59 then .inr (⟨ts, v⟩, nextP s q + 1) else .inl (nextP s q)
  else .inl (nextP s k)
def testsR (s : ByteArray) : Nat → Nat → List PTest → Res PRule
  | 0, k, _ => .inl k
  | f + 1, k, ts =>
    if inR s (nextP s k) 44 44 then
      match testR s (nextP s k + 1) with
      | .inl p => .inl p
      | .inr (t, q) => testsR s f q (ts ++ [t])
    else ruleEnd s k ts
def ruleR (s : ByteArray) (k : Nat) : Res PRule :=
  match testR s k with
  | .inl p => .inl p
  | .inr (t, q) => testsR s (s.size + 1 - q) q [t]

theorem owns_ne {w : World} {base : Nat} {e e' : TypeId} {size : Nat} {v : Value} {n N : Nat} {xs : List Value} {c : Array Value} (h : w.ownsRow base e size v n xs) (hN : w.heap[N]? = some (.cells c e')) (hne : e ≠ e') : v.ownBlock ≠ some N := by
  obtain ⟨h1, h2⟩ := h
  rcases h2 with ⟨rfl, _⟩ | ⟨g, cap, cur, rfl, hg, hh, r⟩
  · simp [Value.ownBlock]
  · intro e
    simp [Value.ownBlock] at e
    subst e
    rw [hh] at hN
    simp at hN
    exact hne hN.2

theorem wordTestR_bd {s : ByteArray} {k q : Nat} {t : PTest} (hk : k ≤ s.size) (h : wordTestR s k = .inr (t, q)) : k ≤ q ∧ q ≤ s.size := by
  have h1 := nextP_le hk
  have h2 := lowEnd_le h1
  have h3 := lowEnd_ge s (nextP s k)
  have h4 := nextP_ge s k
  unfold wordTestR at h
  split at h
  · simp only [Sum.inr.injEq, Prod.mk.injEq] at h; omega
  split at h
  · simp only [Sum.inr.injEq, Prod.mk.injEq] at h; omega
  · cases h
theorem numberTestR_bd {s : ByteArray} {k q : Nat} {t : PTest} (hk : k ≤ s.size) (h : numberTestR s k = .inr (t, q)) : k ≤ q ∧ q ≤ s.size := by
  unfold numberTestR at h
  split at h
  · cases h
  rename_i lo q1 hn
  have b1 := numberR_bd hk hn
  have h1 := nextP_le b1.2.2
  have h4 := nextP_ge s q1
  split at h
  · rename_i ha
    have h5 := inR_lt (by omega) ha
    split at h
    · rename_i hb
      have h6 := inR_lt (by omega) hb
      split at h
      · cases h
      · rename_i hi r hn2
        have b2 := numberR_bd (by omega) hn2
        simp only [Sum.inr.injEq, Prod.mk.injEq] at h
        omega
    · cases h
  · simp only [Sum.inr.injEq, Prod.mk.injEq] at h; omega
theorem withNum_bd {s : ByteArray} {k q : Nat} {t : PTest} {c : Int} (hk : k ≤ s.size) (h : withNum c (numberR s k) = .inr (t, q)) : k ≤ q ∧ q ≤ s.size := by
  cases hn : numberR s k with
  | inl p => rw [hn] at h; cases h
  | inr vq =>
    obtain ⟨v, q1⟩ := vq
    have b1 := numberR_bd hk hn
    rw [hn] at h
    simp only [withNum, Sum.inr.injEq, Prod.mk.injEq] at h
    omega
theorem bareTestR_bd {s : ByteArray} {k q : Nat} {t : PTest} (hk : k ≤ s.size) (h : bareTestR s k = .inr (t, q)) : k ≤ q ∧ q ≤ s.size := by
  have h1 := nextP_le hk
  have h4 := nextP_ge s k
  unfold bareTestR at h
  split at h
  · rename_i ha
    have := inR_lt (by omega) ha
    simp only [Sum.inr.injEq, Prod.mk.injEq] at h; omega
  split at h
  · rename_i ha
    have := inR_lt (by omega) ha
    have := withNum_bd (by omega) h; omega
  split at h
  · rename_i ha
    have := inR_lt (by omega) ha
    have := withNum_bd (by omega) h; omega
  split at h
  · have := wordTestR_bd h1 h; omega
  · have := numberTestR_bd h1 h; omega
theorem bangs_bd (s : ByteArray) : ∀ (f k n : Nat), k ≤ s.size → k ≤ (bangs s f k n).2 ∧ (bangs s f k n).2 ≤ s.size
  | 0, k, n, hk => ⟨nextP_ge s k, nextP_le hk⟩
  | f + 1, k, n, hk => by
    have h1 := nextP_le hk
    have h4 := nextP_ge s k
    simp only [bangs]
    split
    · rename_i ha
      have h5 := inR_lt (by omega) ha
      have := bangs_bd s f (nextP s k + 1) (n + 1) (by omega)
      omega
    · exact ⟨h4, h1⟩
theorem testR_bd {s : ByteArray} {k q : Nat} {t : PTest} (hk : k ≤ s.size) (h : testR s k = .inr (t, q)) : k ≤ q ∧ q ≤ s.size := by
  have hb := bangs_bd s (s.size - k) k 0 hk
  unfold testR at h
  split at h
  · cases h
  · rename_i t' q' hn
    have := bareTestR_bd hb.2 hn
    simp only [Sum.inr.injEq, Prod.mk.injEq] at h
    omega

end Go.Proofs.YthnggjaecngbiaaGreatDoor

