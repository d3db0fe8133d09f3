import Derived.Deep.DeepAppendWide
import Derived.WalkKit
import Derived.Deep.AppendLies
namespace Go.Proofs.YthnggjaecngbiaaGreatDoor
open Go.RowKit
theorem run_append_told {P : Program} (w : World) (t ty : TypeId) (base : Nat) (e : TypeId) (i : TypeInfo) (z : Value) (size bytes : Nat) (ht : P.underlying t = some (.slice e)) (hi : P.info? e = some i) (hz : i.zero = some z)
  (hsize : i.size = size) (hby : i.bytes = bytes) (hzs : z.cells.size = size) (hsz : 0 < size)
  (v : Value) (n : Nat) (xs : List Value) (hown : w.ownsRow base e size v n xs)
  (a : Addr) (m c : Nat) (news : List Value) (hl : news.length = m * size) (hnews : ∀ j u, news[j]? = some u → w.cell? (a.add j) = some u) (h1 : ∀ u ∈ news, u.oneCell' = true)
  (hm : 0 < m) (h63 : n + m ≤ maxLen) (hbytes : (n + m + (n + m) / 4 + 192) * bytes ≤ 281474976710656) (hbase : base ≤ w.heap.size) (H : Nat) (hH : w.heap.size = H) :
  ∃ g cap w', (Builtin.append_ #[t, t] ty #[v, .slice (some a) m c]).run P w = .ok (.slice (some ⟨g, 0, none⟩) (n + m) cap) w' ∧
   w'.ownsRow base e size (.slice (some ⟨g, 0, none⟩) (n + m) cap) (n + m) (xs ++ news) ∧ w.grownBy w' v.ownBlock ∧ (v.ownBlock = some g ∨ g = H) ∧
   (∀ k, v.ownBlock = some k → ∀ cur, w.heap[k]? = some (.cells cur e (0, 0)) → n * size + news.length ≤ cur.size ∧ w'.heap[k]? = some (.cells (cur.toList.take (n * size) ++ news ++ cur.toList.drop (n * size + news.length)).toArray e (0, 0)) ∨ w'.heap[k]? = w.heap[k]?) := by
 subst hsize
 subst hby
 have hsmall : n + m ≤ 9223372036854775807 := by simp only [maxLen] at h63; omega
 have hlen : (xs ++ news).length = (n + m) * i.size := by rw [List.length_append, hown.1, hl, Nat.add_mul]
 have grown : ∀ (old : Nat), old < n + m → ∀ (row : Option Nat),
   (w.drew.alloc (.cells (xs.toArray ++ news.toArray ++ Builtin.zeroCells z.cells (grownCap w (n + m) old e - (n + m))) e)).ownsRow base e i.size
    (.slice (some ⟨w.heap.size, 0, none⟩) (n + m) (grownCap w (n + m) old e)) (n + m) (xs ++ news) ∧
   w.grownBy (w.drew.alloc (.cells (xs.toArray ++ news.toArray ++ Builtin.zeroCells z.cells (grownCap w (n + m) old e - (n + m))) e)) row := by
  intro old ho row
  have hge := grownCap_ge w (n + m) old e
  have hcm : grownCap w (n + m) old e ≤ maxLen := grownCap_le_maxLen w (n + m) old e h63
  refine ⟨⟨hlen, .inr ⟨w.heap.size, _, _, rfl, hbase, heap_alloc_new w.drew _, hge, hcm, ?_, ?_⟩⟩, ⟨rfl, rfl, rfl, by simp, fun k hk _ => Below.heap_alloc w.drew _ k hk⟩⟩
  ·simp only [Array.size_append, List.size_toArray, size_zeroCells, hzs, hown.1, hl, ← Nat.add_mul]
   congr 1
   omega
  ·simp only [Array.toList_append, List.append_assoc]
   rw [← List.append_assoc, ← hlen]
   exact List.take_left
 have h48 : (n + m) * i.bytes ≤ 281474976710656 := Nat.le_trans (Nat.mul_le_mul_right _ (by omega)) hbytes
 rcases hown.2 with ⟨rfl, rfl⟩ | ⟨g, cap, cur, rfl, hbg, hg, hnc, hcm, hcs, htake⟩
 ·have hx : xs = [] := List.eq_nil_of_length_eq_zero (by simpa using hown.1)
  subst hx
  have hr := run_append_nil (P := P) w t ty e i z ht hi hz a m c news hl hnews (by omega) (by omega) (by have hb := h48; simp only [Nat.zero_add] at hb; omega)
  have hgr := grown 0 (by omega) (Value.ownBlock (.slice none 0 0))
  simp only [Nat.zero_add, List.nil_append, Array.empty_append] at hgr ⊢
  exact ⟨_, _, _, hr, hgr.1, hgr.2, Or.inr hH, fun k hk => by simp [Value.ownBlock] at hk⟩
 ·by_cases hroom : n + m ≤ cap
  ·have hfit : n * i.size + news.length ≤ cur.size := by rw [hl, hcs, ← Nat.add_mul]; exact Nat.mul_le_mul_right _ hroom
   have hr := run_append_room (P := P) w t ty e i ht hi g n cap cur hg a m c news hl hnews h1 hroom hfit
   refine ⟨_, _, _, hr, ⟨hlen, .inr ⟨g, cap, _, rfl, hbg, setRow_heap w g cur _ e _ hg, hroom, hcm, ?_, ?_⟩⟩, ⟨rfl, rfl, rfl, by simp, fun k _ hk => setRow_other w g k _ (fun e => hk (by simp [Value.ownBlock, e]))⟩, Or.inl rfl, ?_⟩
   ·simp only [List.size_toArray, List.length_append, List.length_take, List.length_drop, Array.length_toList]
    omega
   ·rw [htake, ← hlen]
    exact List.take_left
   ·intro k hk cur2 hc2
    simp only [Value.ownBlock, Option.some.injEq] at hk
    subst hk
    rw [hg] at hc2
    simp only [Option.some.injEq, Obj.cells.injEq, and_true] at hc2
    obtain rfl := hc2
    exact Or.inl ⟨hfit, setRow_heap w g cur _ e _ hg⟩
  ·have holds : ∀ j u, xs[j]? = some u → w.cell? ((⟨g, 0, none⟩ : Addr).add j) = some u := hown.cells (g := g) rfl
   have hr := run_append_grow (P := P) w t ty e i z ht hi hz ⟨g, 0, none⟩ n cap xs hown.1 holds a m c news hl hnews (by omega) (by omega) (growslice_fits_wide (by omega) hbytes)
   have hgr := grown cap (by omega) (Value.ownBlock (.slice (some ⟨g, 0, none⟩) n cap))
   refine ⟨_, _, _, hr, hgr.1, hgr.2, Or.inr hH, ?_⟩
   intro k hk cur2 hc2
   exact Or.inr (Below.heap_alloc w.drew _ k (lt_of_block hc2))
theorem wp_append_told {P : Program} (w : World) {o : Oper} {a : Act} {K : Act → World → Prop} {Q : Exit → Act → World → Prop} (s x : Operand) (t : TypeId)
  (ho : o.op = .call { callee := .builtin .append, args := #[s, x], argTypes := #[t, t] })
  (base : Nat) (e : TypeId) (i : TypeInfo) (z : Value) (size bytes : Nat) (ht : P.underlying t = some (.slice e)) (hi : P.info? e = some i) (hz : i.zero = some z)
  (hsize : i.size = size) (hby : i.bytes = bytes) (hzs : z.cells.size = size) (hsz : 0 < size)
  (v : Value) (n : Nat) (xs : List Value) (hs : a.eval s = v) (hown : w.ownsRow base e size v n xs)
  (ad : Addr) (m c : Nat) (news : List Value) (hx : a.eval x = .slice (some ad) m c) (hl : news.length = m * size) (hnews : ∀ j u, news[j]? = some u → w.cell? (ad.add j) = some u) (h1 : ∀ u ∈ news, u.oneCell' = true)
  (hm : 0 < m) (h63 : n + m ≤ maxLen) (hbytes : (n + m + (n + m) / 4 + 192) * bytes ≤ 281474976710656) (hbase : base ≤ w.heap.size) (H : Nat) (hH : w.heap.size = H)
  (h : ∀ g cap w', w'.ownsRow base e size (.slice (some ⟨g, 0, none⟩) (n + m) cap) (n + m) (xs ++ news) → w.grownBy w' v.ownBlock → (v.ownBlock = some g ∨ g = H) →
   (∀ k, v.ownBlock = some k → ∀ cur, w.heap[k]? = some (.cells cur e (0, 0)) → n * size + news.length ≤ cur.size ∧ w'.heap[k]? = some (.cells (cur.toList.take (n * size) ++ news ++ cur.toList.drop (n * size + news.length)).toArray e (0, 0)) ∨ w'.heap[k]? = w.heap[k]?) →
   K (a.put o.dst (.slice (some ⟨g, 0, none⟩) (n + m) cap)) w') : o.wp P a w K Q := by
 obtain ⟨g, cap, w', hr, h2, h3, h4, h5⟩ := run_append_told (P := P) w t o.type base e i z size bytes ht hi hz hsize hby hzs hsz v n xs hown ad m c news hl hnews h1 hm h63 hbytes hbase H hH
 unfold Oper.wp execOp
 simp only [ho, resolve, invoke, builtin, Sem.run_bind, Sem.run_pure, Result.andThen_ok, List.map_toArray, List.map_cons, List.map_nil, hs, hx, hr]
 exact h g cap w' h2 h3 h4 h5
theorem wpList_append_told {P : Program} (w : World) {ops : Array Oper} {rest : List Oper} {o : Oper} {a : Act} {Q : Exit → Act → World → Prop} (hgd : o.guard = none) (s x : Operand) (t : TypeId)
  (ho : o.op = .call { callee := .builtin .append, args := #[s, x], argTypes := #[t, t] })
  (base : Nat) (e : TypeId) (i : TypeInfo) (z : Value) (size bytes : Nat) (ht : P.underlying t = some (.slice e)) (hi : P.info? e = some i) (hz : i.zero = some z)
  (hsize : i.size = size) (hby : i.bytes = bytes) (hzs : z.cells.size = size) (hsz : 0 < size)
  (v : Value) (n : Nat) (xs : List Value) (hs : a.eval s = v) (hown : w.ownsRow base e size v n xs)
  (ad : Addr) (m c : Nat) (news : List Value) (hx : a.eval x = .slice (some ad) m c) (hl : news.length = m * size) (hnews : ∀ j u, news[j]? = some u → w.cell? (ad.add j) = some u) (h1 : ∀ u ∈ news, u.oneCell' = true)
  (hm : 0 < m) (h63 : n + m ≤ maxLen) (hbytes : (n + m + (n + m) / 4 + 192) * bytes ≤ 281474976710656) (hbase : base ≤ w.heap.size) (H : Nat) (hH : w.heap.size = H)
  (h : ∀ g cap w', w'.ownsRow base e size (.slice (some ⟨g, 0, none⟩) (n + m) cap) (n + m) (xs ++ news) → w.grownBy w' v.ownBlock → (v.ownBlock = some g ∨ g = H) →
   (∀ k, v.ownBlock = some k → ∀ cur, w.heap[k]? = some (.cells cur e (0, 0)) → n * size + news.length ≤ cur.size ∧ w'.heap[k]? = some (.cells (cur.toList.take (n * size) ++ news ++ cur.toList.drop (n * size + news.length)).toArray e (0, 0)) ∨ w'.heap[k]? = w.heap[k]?) →
   wpList P ops Q rest (a.put o.dst (.slice (some ⟨g, 0, none⟩) (n + m) cap)) w') : wpList P ops Q (o :: rest) a w :=
 wpList_plain hgd fun _ hK => wp_append_told w s x t ho base e i z size bytes ht hi hz hsize hby hzs hsz v n xs hs hown ad m c news hx hl hnews h1 hm h63 hbytes hbase H hH fun g cap w' h2 h3 h4 h5 => hK _ _ (h g cap w' h2 h3 h4 h5)
theorem step_append_told {P : Program} (w : World) {ops : Array Oper} {o : Oper} {a : Act} {K : Act → World → Prop} {Q : Exit → Act → World → Prop} {E : Prop} (hgd : o.guard = none) (s x : Operand) (t : TypeId)
  (ho : o.op = .call { callee := .builtin .append, args := #[s, x], argTypes := #[t, t] })
  (base : Nat) (e : TypeId) (i : TypeInfo) (z : Value) (size bytes : Nat) (ht : P.underlying t = some (.slice e)) (hi : P.info? e = some i) (hz : i.zero = some z)
  (hsize : i.size = size) (hby : i.bytes = bytes) (hzs : z.cells.size = size) (hsz : 0 < size)
  (v : Value) (n : Nat) (xs : List Value) (hs : a.eval s = v) (hown : w.ownsRow base e size v n xs)
  (ad : Addr) (m c : Nat) (news : List Value) (hx : a.eval x = .slice (some ad) m c) (hl : news.length = m * size) (hnews : ∀ j u, news[j]? = some u → w.cell? (ad.add j) = some u) (h1 : ∀ u ∈ news, u.oneCell' = true)
  (hm : 0 < m) (h63 : n + m ≤ maxLen) (hbytes : (n + m + (n + m) / 4 + 192) * bytes ≤ 281474976710656) (hbase : base ≤ w.heap.size) (H : Nat) (hH : w.heap.size = H)
  (h : ∀ g cap w', w'.ownsRow base e size (.slice (some ⟨g, 0, none⟩) (n + m) cap) (n + m) (xs ++ news) → w.grownBy w' v.ownBlock → (v.ownBlock = some g ∨ g = H) →
   (∀ k, v.ownBlock = some k → ∀ cur, w.heap[k]? = some (.cells cur e (0, 0)) → n * size + news.length ≤ cur.size ∧ w'.heap[k]? = some (.cells (cur.toList.take (n * size) ++ news ++ cur.toList.drop (n * size + news.length)).toArray e (0, 0)) ∨ w'.heap[k]? = w.heap[k]?) →
   K (a.put o.dst (.slice (some ⟨g, 0, none⟩) (n + m) cap)) w') :
  if Region.wanted o (yielded ops a.tmps) = true then Oper.wp P o a w K Q else E := by
 have hw : Region.wanted o (yielded ops a.tmps) = true := by simp [Region.wanted, hgd]
 rw [if_pos hw]
 exact wp_append_told w s x t ho base e i z size bytes ht hi hz hsize hby hzs hsz v n xs hs hown ad m c news hx hl hnews h1 hm h63 hbytes hbase H hH h
def repL (c : List Value) (k : Nat) : List Value := (List.replicate k c).flatten
theorem repL_len (c : List Value) (k : Nat) : (repL c k).length = k * c.length := by
 unfold repL
 rw [List.length_flatten, List.map_replicate, List.sum_replicate_nat]
theorem repL_add (c : List Value) (a b : Nat) : repL c (a + b) = repL c a ++ repL c b := by
 unfold repL
 rw [← List.replicate_append_replicate, List.flatten_append]
theorem repL_take {c : List Value} {a b : Nat} (h : a ≤ b) : (repL c b).take (a * c.length) = repL c a := by
 obtain ⟨d, rfl⟩ : ∃ d, b = a + d := ⟨b - a, by omega⟩
 rw [repL_add, ← repL_len, List.take_left]
theorem repL_drop {c : List Value} {a b : Nat} (h : a ≤ b) : (repL c b).drop (a * c.length) = repL c (b - a) := by
 obtain ⟨d, rfl⟩ : ∃ d, b = a + d := ⟨b - a, by omega⟩
 rw [repL_add, ← repL_len, List.drop_left, show a + d - a = d by omega]
theorem rep_over {c : List Value} {n m k : Nat} {cur : List Value} (hn : cur.take (n * c.length) = repL c n) (hk : cur.take (k * c.length) = repL c k) :
  (cur.take (n * c.length) ++ repL c m ++ cur.drop (n * c.length + (repL c m).length)).take (k * c.length) = repL c k := by
 rw [hn, ← repL_add, repL_len, ← Nat.add_mul]
 rcases Nat.le_total k (n + m) with h | h
 ·rw [List.take_append_of_le_length (by rw [repL_len]; exact Nat.mul_le_mul_right _ h)]
  exact repL_take h
 ·have e1 : k * c.length = (repL c (n + m)).length + (k - (n + m)) * c.length := by rw [repL_len, ← Nat.add_mul]; congr 1; omega
  rw [e1, List.take_length_add_append]
  have e2 : (cur.drop ((n + m) * c.length)).take ((k - (n + m)) * c.length) = repL c (k - (n + m)) := by
   rw [← repL_drop h, ← hk, List.drop_take]
   congr 1
   rw [Nat.sub_mul]
  rw [e2, ← repL_add]
  congr 1
  omega
theorem owns_rep {w w' : World} {base b2 : Nat} {e : TypeId} {c : List Value} {v u : Value} {n m k : Nat} (hv : w.ownsRow base e c.length v n (repL c n)) (hu : w.ownsRow b2 e c.length u k (repL c k))
  (hg : w.grownBy w' v.ownBlock)
  (hr : ∀ j, v.ownBlock = some j → ∀ cur, w.heap[j]? = some (.cells cur e (0, 0)) → n * c.length + (repL c m).length ≤ cur.size ∧ w'.heap[j]? = some (.cells (cur.toList.take (n * c.length) ++ repL c m ++ cur.toList.drop (n * c.length + (repL c m).length)).toArray e (0, 0)) ∨ w'.heap[j]? = w.heap[j]?) :
  w'.ownsRow b2 e c.length u k (repL c k) := by
 refine ⟨hu.1, ?_⟩
 rcases hu.2 with h | ⟨g, cap, cur, hv2, hb, hgg, h1, h2, h3, h4⟩
 ·exact Or.inl h
 ·by_cases hgb : v.ownBlock = some g
  ·rcases hr g hgb cur hgg with ⟨hfit, hc⟩ | hc
   ·refine Or.inr ⟨g, cap, _, hv2, hb, hc, h1, h2, ?_, ?_⟩
    ·simp only [List.size_toArray, List.length_append, List.length_take, List.length_drop, Array.length_toList]
     omega
    ·refine rep_over ?_ h4
     ·rcases hv.2 with ⟨rfl, rfl⟩ | ⟨g', cap', cur', rfl, _, hg', _, _, _, ht'⟩
      ·simp [Value.ownBlock] at hgb
      ·simp only [Value.ownBlock, Option.some.injEq] at hgb
       subst hgb
       rw [hgg] at hg'
       simp only [Option.some.injEq, Obj.cells.injEq, and_true] at hg'
       rw [hg']
       exact ht'
   ·exact Or.inr ⟨g, cap, cur, hv2, hb, hc.trans hgg, h1, h2, h3, h4⟩
  ·exact Or.inr ⟨g, cap, cur, hv2, hb, (hg.block g (lt_of_block hgg) (fun h => hgb h.symm)).trans hgg, h1, h2, h3, h4⟩
end Go.Proofs.YthnggjaecngbiaaGreatDoor
namespace Go.Proofs.YthnggjaecngbiaaGreatDoor
open Go.RowKit
structure LRow where
 v : Value
 n : Nat
 xs : List Value
def updR (r : Nat → LRow) (i : Nat) (x : LRow) : Nat → LRow := fun j => if j = i then x else r j
theorem updR_at (r : Nat → LRow) (i : Nat) (x : LRow) : updR r i x i = x := by simp [updR]
theorem updR_far (r : Nat → LRow) {i j : Nat} (x : LRow) (h : j ≠ i) : updR r i x j = r j := by simp [updR, h]
structure Six (ty : Nat → TypeId) (sz : Nat → Nat) (T : TypeId) (w : World) (g : Nat) (F : Nat → Prop) (r : Nat → LRow) : Prop where
 blk : w.heap[g]? = some (.cells #[(r 0).v, (r 1).v, (r 2).v, (r 3).v, (r 4).v, (r 5).v] T)
 own : ∀ i, i < 6 → w.ownsRow g (ty i) (sz i) (r i).v (r i).n (r i).xs
 far : ∀ i, i < 6 → ∀ b, (r i).v.ownBlock = some b → b ≠ g ∧ ¬ F b ∧ ∀ j, j < 6 → j ≠ i → (r j).v.ownBlock ≠ some b
 still : ¬ F g
 lt : ∀ j, F j → j < w.heap.size
theorem owns_same {w w' : World} {base : Nat} {e : TypeId} {size : Nat} {v : Value} {n : Nat} {xs : List Value} (h : w.ownsRow base e size v n xs) (k : ∀ g, v.ownBlock = some g → w'.heap[g]? = w.heap[g]?) : w'.ownsRow base e size v n xs := by
 refine ⟨h.1, ?_⟩
 rcases h.2 with hn | ⟨g, cap, cur, rfl, hb, hgg, rest⟩
 ·exact .inl hn
 ·exact .inr ⟨g, cap, cur, rfl, hb, (k g rfl).trans hgg, rest⟩
section
variable {ty : Nat → TypeId} {sz : Nat → Nat} {T : TypeId} {w w' : World} {g : Nat} {F : Nat → Prop} {r : Nat → LRow}
theorem Six.row_lt (h : Six ty sz T w g F r) {i : Nat} (hi : i < 6) {b : Nat} (hb : (r i).v.ownBlock = some b) : b < w.heap.size := ((h.own i hi).lt b hb).2
theorem Six.below (h : Six ty sz T w g F r) (k : Below w.heap.size w w') : Six ty sz T w' g F r :=
 ⟨(k.block g (lt_of_block h.blk)).trans h.blk, fun i hi => owns_same (h.own i hi) (fun b hb => k.block b (h.row_lt hi hb)), h.far, h.still, fun j hj => Nat.lt_of_lt_of_le (h.lt j hj) k.size⟩
theorem Six.apart (h : Six ty sz T w g F r) (hs : w.heap.size ≤ w'.heap.size) (k : ∀ j, j < w.heap.size → (j = g ∨ ∃ i, i < 6 ∧ (r i).v.ownBlock = some j) → w'.heap[j]? = w.heap[j]?) : Six ty sz T w' g F r :=
 ⟨(k g (lt_of_block h.blk) (Or.inl rfl)).trans h.blk, fun i hi => owns_same (h.own i hi) (fun b hb => k b (h.row_lt hi hb) (Or.inr ⟨i, hi, hb⟩)), h.far, h.still, fun j hj => Nat.lt_of_lt_of_le (h.lt j hj) hs⟩
theorem Six.more {F' : Nat → Prop} (h : Six ty sz T w g F r) (hF : ∀ j, F' j → F j ∨ (j < w.heap.size ∧ j ≠ g ∧ ∀ i, i < 6 → (r i).v.ownBlock ≠ some j)) : Six ty sz T w g F' r :=
 ⟨h.blk, h.own, fun i hi b hb => ⟨(h.far i hi b hb).1, fun hf => by
  rcases hF b hf with h1 | ⟨_, _, h3⟩
  ·exact (h.far i hi b hb).2.1 h1
  ·exact h3 i hi hb, (h.far i hi b hb).2.2⟩, fun hf => by
  rcases hF g hf with h1 | ⟨_, h2, _⟩
  ·exact h.still h1
  ·exact h2 rfl, fun j hj => by
  rcases hF j hj with h1 | ⟨h2, _⟩
  ·exact h.lt j h1
  ·exact h2⟩
theorem cell_set6 {w : World} {g i : Nat} {a : Array Value} {T : TypeId} {x : Value} (h : w.heap[g]? = some (.cells a T)) : (w.setCell ⟨g, i, none⟩ x).heap[g]? = some (.cells (a.setIfInBounds i x) T) := by
 simp [World.setCell, Array.getElem?_modify, h]
theorem Six.push {w1 : World} {i : Nat} (h : Six ty sz T w g F r) (hi : i < 6) {g' n' cap H : Nat} {xs' : List Value} (hg : w.grownBy w1 (r i).v.ownBlock)
  (hown : w1.ownsRow g (ty i) (sz i) (.slice (some ⟨g', 0, none⟩) n' cap) n' xs') (hat : (r i).v.ownBlock = some g' ∨ g' = H) (hH : w.heap.size = H) :
  Six ty sz T (w1.setCell ⟨g, i, none⟩ (.slice (some ⟨g', 0, none⟩) n' cap)) g F (updR r i ⟨.slice (some ⟨g', 0, none⟩) n' cap, n', xs'⟩) ∧
  (∀ j, j < w.heap.size → j ≠ g → (r i).v.ownBlock ≠ some j → (w1.setCell ⟨g, i, none⟩ (.slice (some ⟨g', 0, none⟩) n' cap)).heap[j]? = w.heap[j]?) ∧
  Below g w (w1.setCell ⟨g, i, none⟩ (.slice (some ⟨g', 0, none⟩) n' cap)) := by
 have hgl := lt_of_block h.blk
 have hgi : some g ≠ (r i).v.ownBlock := fun e => (h.far i hi g e.symm).1 rfl
 have hg1 : w1.heap[g]? = some (.cells #[(r 0).v, (r 1).v, (r 2).v, (r 3).v, (r 4).v, (r 5).v] T) := (hg.block g hgl hgi).trans h.blk
 have hg'g : g' ≠ g := by
  rcases hat with e | e
  ·exact (h.far i hi g' e).1
  ·omega
 have hother : ∀ j, j ≠ g → (w1.setCell ⟨g, i, none⟩ (.slice (some ⟨g', 0, none⟩) n' cap)).heap[j]? = w1.heap[j]? := fun j hj => Below.heap_setCell _ _ _ _ hj
 refine ⟨⟨?_, ?_, ?_, h.still, ?_⟩, ?_, ?_⟩
 ·rw [cell_set6 hg1]
  rcases (by omega : i = 0 ∨ i = 1 ∨ i = 2 ∨ i = 3 ∨ i = 4 ∨ i = 5) with rfl | rfl | rfl | rfl | rfl | rfl <;> rfl
 ·intro j hj
  by_cases hji : j = i
  ·subst hji
   rw [updR_at]
   exact owns_same hown (fun b hb => by simp only [Value.ownBlock, Option.some.injEq] at hb; subst hb; exact hother _ hg'g)
  ·rw [updR_far _ _ hji]
   refine owns_same (h.own j hj) (fun b hb => ?_)
   rw [hother b (h.far j hj b hb).1]
   exact hg.block b (h.row_lt hj hb) (fun e => (h.far j hj b hb).2.2 i hi (fun e => hji e.symm) e.symm)
 ·intro j hj b hb
  by_cases hji : j = i
  ·subst hji
   rw [updR_at] at hb
   simp only [Value.ownBlock, Option.some.injEq] at hb
   subst hb
   refine ⟨hg'g, ?_, ?_⟩
   ·rcases hat with e | e
    ·exact (h.far j hj g' e).2.1
    ·intro hf
     have := h.lt g' hf
     omega
   ·intro k hk hkj
    rw [updR_far _ _ hkj]
    rcases hat with e | e
    ·exact (h.far j hj g' e).2.2 k hk hkj
    ·intro hkb
     have := h.row_lt hk hkb
     omega
  ·rw [updR_far _ _ hji] at hb
   have hf := h.far j hj b hb
   refine ⟨hf.1, hf.2.1, ?_⟩
   intro k hk hkj
   by_cases hki : k = i
   ·subst hki
    rw [updR_at]
    intro e
    simp only [Value.ownBlock, Option.some.injEq] at e
    subst e
    rcases hat with e | e
    ·exact hf.2.2 k hk hkj e
    ·have := h.row_lt hj hb
     omega
   ·rw [updR_far _ _ hki]
    exact hf.2.2 k hk hkj
 ·intro j hj
  have := h.lt j hj
  have := hg.size
  simp only [World.setCell, Array.size_modify]
  omega
 ·intro j hj hjg hji
  rw [hother j hjg]
  exact hg.block j hj (fun e => hji e.symm)
 ·refine Below.setCell ⟨hg.os, hg.tape, hg.output, hg.size, fun j hj => hg.block j (Nat.lt_trans hj hgl) (fun e => ?_)⟩ (p := ⟨g, i, none⟩) (Nat.le_refl _) _
  have := ((h.own i hi).lt j e.symm).1
  omega
theorem Six.cells (h : Six ty sz T w g F r) :
  (w.cell? ⟨g, 0, none⟩ = some (r 0).v ∧ w.cell? ⟨g, 1, none⟩ = some (r 1).v ∧ w.cell? ⟨g, 2, none⟩ = some (r 2).v ∧ w.cell? ⟨g, 3, none⟩ = some (r 3).v ∧ w.cell? ⟨g, 4, none⟩ = some (r 4).v ∧ w.cell? ⟨g, 5, none⟩ = some (r 5).v) ∧
  w.frozen? ⟨g, 0, none⟩ = false ∧ w.frozen? ⟨g, 1, none⟩ = false ∧ w.frozen? ⟨g, 2, none⟩ = false ∧ w.frozen? ⟨g, 3, none⟩ = false ∧ w.frozen? ⟨g, 4, none⟩ = false ∧ w.frozen? ⟨g, 5, none⟩ = false := by
 have hb := h.blk
 simp [World.cell?, World.frozen?, hb]
theorem Six.form (h : Six ty sz T w g F r) {i : Nat} (hi : i < 6) : ∃ ao cap, (r i).v = .slice ao (r i).n cap := by
 rcases (h.own i hi).2 with ⟨h1, h2⟩ | ⟨gg, cap, cur, h1, _⟩
 ·exact ⟨none, 0, by rw [h1, h2]⟩
 ·exact ⟨_, _, h1⟩
end
end Go.Proofs.YthnggjaecngbiaaGreatDoor
