import Derived.Test.YthnggjaecngbiaaGreatDoorLbA
namespace Go.Proofs.YthnggjaecngbiaaGreatDoor
open Go.RowKit

/-- Results in memory. -/
def ResV (base : Nat) (w : World) (rs : List (PVal × Value)) (ps : List (PVal × List Nat)) : Prop :=
  rs.length = ps.length ∧ ∀ x ∈ rs.zip ps, x.1.1 = x.2.1 ∧ w.ownsRow base 3 1 x.1.2 x.2.2.length (nats x.2.2)
theorem ResV.below {base : Nat} {w w' : World} {rs : List (PVal × Value)} {ps : List (PVal × List Nat)} (h : ResV base w rs ps) (g : Below w.heap.size w w') : ResV base w' rs ps :=
  ⟨h.1, fun x hx => ⟨(h.2 x hx).1, owns_below (h.2 x hx).2 g⟩⟩
theorem ResV.set {base : Nat} {w : World} {rs : List (PVal × Value)} {ps : List (PVal × List Nat)} {N : Nat} {c : Array Value} {T : TypeId} (h : ResV base w rs ps) (hN : w.heap[N]? = some (.cells c T)) (hne : 3 ≠ T) (i : Nat) (v : Value) : ResV base (w.setCell ⟨N, i, none⟩ v) rs ps :=
  ⟨h.1, fun x hx => ⟨(h.2 x hx).1, owns_keep (h.2 x hx).2 (fun gg c' _ hg => set_keep hN hne gg c' hg)⟩⟩
theorem ResV.push {base : Nat} {w : World} {rs : List (PVal × Value)} {ps : List (PVal × List Nat)} (h : ResV base w rs ps) (p : PVal × List Nat) (v : Value) (hv : w.ownsRow base 3 1 v p.2.length (nats p.2)) : ResV base w (rs ++ [(p.1, v)]) (ps ++ [p]) := by
  refine ⟨by simp [h.1], fun x hx => ?_⟩
  rw [List.zip_append h.1, List.mem_append] at hx
  rcases hx with hx | hx
  · exact h.2 x hx
  · simp at hx; subst hx; exact ⟨rfl, hv⟩
theorem ResV.get {base : Nat} {w : World} {rs : List (PVal × Value)} {ps : List (PVal × List Nat)} (h : ResV base w rs ps) {i : Nat} (h1 : i < rs.length) (h2 : i < ps.length) : rs[i].1 = ps[i].1 ∧ w.ownsRow base 3 1 rs[i].2 ps[i].2.length (nats ps[i].2) := by
  have hz : i < (rs.zip ps).length := by simp; omega
  have := h.2 (rs.zip ps)[i] (List.getElem_mem hz)
  rw [List.getElem_zip] at this
  exact this
theorem ResV.fst {base : Nat} {w : World} {rs : List (PVal × Value)} {ps : List (PVal × List Nat)} (h : ResV base w rs ps) (n i : Nat) : ((rs ++ List.replicate n rZero).getD i rZero).1 = (ps.map Prod.fst).getD i PVal.zero := by
  by_cases hi : i < rs.length
  · have h2 : i < ps.length := by have := h.1; omega
    rw [List.getD_eq_getElem?_getD, List.getElem?_append_left hi, List.getElem?_eq_getElem hi, getD_at _ _ (by simpa using h2), List.getElem_map]
    exact (h.get hi h2).1
  · have h2 : ¬ i < ps.length := by have := h.1; omega
    rw [List.getD_eq_getElem?_getD, List.getElem?_append_right (by omega), List.getElem?_replicate, List.getD_eq_getElem?_getD, List.getElem?_eq_none (l := ps.map Prod.fst) (by simp; omega)]
    split <;> rfl

theorem colVals_len (its : List PItem) (vs : List PVal) (it : PItem) : (colVals its vs it).length = it.cols.length := by simp [colVals]
theorem res_cells {w : World} {g : Nat} {rs : List (PVal × Value)} {j n : Nat} {T : TypeId} (h : w.heap[g]? = some (.cells (flatZ rc3 rZero rs n).toArray T)) (hr : rs.length = j) (hj : j < n) :
    (w.cell? ⟨g, j * 3, none⟩ = some (.int .i64 0) ∧ w.cell? ⟨g, j * 3 + 1, none⟩ = some (.int .i64 0) ∧ w.cell? ⟨g, j * 3 + 2, none⟩ = some (.slice none 0 0)) ∧ w.frozen? ⟨g, j * 3, none⟩ = false ∧ w.frozen? ⟨g, j * 3 + 1, none⟩ = false ∧ w.frozen? ⟨g, j * 3 + 2, none⟩ = false ∧ g < w.heap.size := by
  subst hr
  have key := fun i hi => flatZ_zero rc3 rZero (l := rs) (n := n) (m := 3) hj (fun _ => rfl) i hi
  refine ⟨⟨?_, ?_, ?_⟩, (arr_cell h _).2, (arr_cell h _).2, (arr_cell h _).2, lt_of_block h⟩
  · rw [(arr_cell h _).1]; have := key 0 (by omega); rw [Nat.add_zero] at this; rw [this]; rfl
  · rw [(arr_cell h _).1, key 1 (by omega)]; rfl
  · rw [(arr_cell h _).1, key 2 (by omega)]; rfl
theorem res_set {w : World} {g : Nat} {rs : List (PVal × Value)} {j n : Nat} {T : TypeId} (h : w.heap[g]? = some (.cells (flatZ rc3 rZero rs n).toArray T)) (hr : rs.length = j) (hj : j < n) (p : PVal) (v : Value) :
    (((w.setCell ⟨g, j * 3, none⟩ (.int .i64 p.kind)).setCell ⟨g, j * 3 + 1, none⟩ (.int .i64 p.n)).setCell ⟨g, j * 3 + 2, none⟩ v).heap[g]? = some (.cells (flatZ rc3 rZero (rs ++ [(p, v)]) n).toArray T) := by
  subst hr
  rw [heap_set_same (heap_set_same (heap_set_same h _) _)]
  rw [flatZ_set3 rc3 rZero (l := rs) (n := n) hj (p, v) (fun _ => rfl) rfl (a := .int .i64 p.kind) (b := .int .i64 p.n) (c := v) rfl]
/-- A result is stored. -/
theorem res_step {base : Nat} {w0 w : World} {g : Nat} {rs : List (PVal × Value)} {ps : List (PVal × List Nat)} {j n : Nat} (hg : w0.heap.size ≤ g) (hb : Below w0.heap.size w0 w) (hres : ResV base w rs ps) (h : w.heap[g]? = some (.cells (flatZ rc3 rZero rs n).toArray 128)) (hr : rs.length = j) (hj : j < n) (p : PVal × List Nat) (v : Value) (hv : w.ownsRow base 3 1 v p.2.length (nats p.2)) {w' : World}
    (hw' : w' = ((w.setCell ⟨g, j * 3, none⟩ (.int .i64 p.1.kind)).setCell ⟨g, j * 3 + 1, none⟩ (.int .i64 p.1.n)).setCell ⟨g, j * 3 + 2, none⟩ v) :
    Below w0.heap.size w0 w' ∧ ResV base w' (rs ++ [(p.1, v)]) (ps ++ [p]) ∧ w'.heap[g]? = some (.cells (flatZ rc3 rZero (rs ++ [(p.1, v)]) n).toArray 128) := by
  subst hw'
  refine ⟨((hb.setCell (p := ⟨g, j * 3, none⟩) hg _).setCell (p := ⟨g, j * 3 + 1, none⟩) hg _).setCell (p := ⟨g, j * 3 + 2, none⟩) hg _, ?_, res_set h hr hj p.1 v⟩
  have h1 := hres.push p v hv
  have h2 := h1.set h (by decide) (j * 3) (.int .i64 p.1.kind)
  have h3 := h2.set (heap_set_same h _) (by decide) (j * 3 + 1) (.int .i64 p.1.n)
  exact h3.set (heap_set_same (heap_set_same h _) _) (by decide) (j * 3 + 2) v

set_option maxRecDepth 100000 in
set_option maxHeartbeats 3200000 in
theorem evitems_any (v : Value) (xs : List LItem) (vl : Value) (vals : List Int) (w : World) (hit : ItemsV w v xs) (ok : OkPlan (xs.map LItem.it)) (hwf : ∀ x ∈ xs, WfI x.it) (hvl : SlAt w 1 vl vals.length (ints vals)) (hin : vals.length = inputsP (xs.map LItem.it)) :
    Calls Tryz.prog 69 #[v, vl] w fun e w' => ∃ rv rs, e = .returned rv ∧ Below w.heap.size w w' ∧ ResV w.heap.size w' rs (resP (xs.map LItem.it) vals) ∧ w'.ownsRow w.heap.size 128 3 rv rs.length (rs.flatMap rc3) := by
  obtain ⟨io, ic, rfl⟩ := hit.1.form
  obtain ⟨vo, vc, rfl⟩ := hvl.form
  have hlen : xs.length ≤ 12 := by have := ok.len; simpa using this
  have hmk := make_results xs.length (by omega)
  have HI := hide hit
  have HK := hide ok
  have HW := hide hwf
  have HV := hide hvl
  have HN := hide hin
  clear hit ok hwf hvl hin
  obtain ⟨its, hits⟩ : ∃ its, its = xs.map LItem.it := ⟨_, rfl⟩
  rw [← hits] at HK HN ⊢
  have HITS := hide hits
  have hitl : its.length = xs.length := by rw [hits]; simp
  have HITL := hide hitl
  clear hits hitl
  go_enter Tryz.func69, Tryz.ntmps69
  go_wp2_with fail
  go_loopg [6, 14] xs.length (fun g n i wr => ∃ (j : Nat) (rs : List (PVal × Value)), j ≤ xs.length ∧ g = xs.length - j ∧ i = .int .i64 (j : Int) ∧ n = .int .i64 (inputsTo its j : Int) ∧ Below w.heap.size w wr ∧ ResV w.heap.size wr rs (resTo its vals j) ∧ wr.heap[w.heap.size]? = some (.cells (flatZ rc3 rZero rs xs.length).toArray 128))
  case atStart => exact ⟨0, [], by omega, rfl, rfl, by simp [inputsTo], (Below.refl _ _).alloc (Nat.le_refl _) _, ⟨rfl, by simp⟩, alloc_last w _⟩
  case round =>
    obtain ⟨j, rs, hj, hg, rfl, rfl, hb, hres, harr⟩ := hrel
    have hrl : rs.length = j := by rw [hres.1, resTo_len]
    have A : Aside (gk = xs.length - j ∧ Below w.heap.size w wr ∧ ResV w.heap.size wr rs (resTo its vals j) ∧ wr.heap[w.heap.size]? = some (.cells (flatZ rc3 rZero rs xs.length).toArray 128)) := ⟨hg, hb, hres, harr⟩
    have hile := inputsTo_le its j
    have HRL := hide hrl
    clear hg hres hrl
    by_cases hlt : j < xs.length
    · rcases (unhide HI).1 with ⟨h0, _⟩ | ⟨g, cap', hv, hc, hm, hgl, hx⟩
      · omega
      simp only [Value.slice.injEq] at hv
      obtain ⟨rfl, _, rfl⟩ := hv
      have key : ∀ i, i < 7 → wr.cell? ⟨g, j * 7 + i, none⟩ = (itCells xs[j])[i]? := fun i hi => by
        rw [hb.cell (p := ⟨g, j * 7 + i, none⟩) hgl, hx _ (by omega)]
        exact flat_at itCells 7 (fun _ => rfl) xs j i hlt hi
      have k0 := key 0 (by omega)
      have k1 := key 1 (by omega)
      have k2 := key 2 (by omega)
      have k3 := key 3 (by omega)
      have k4 := key 4 (by omega)
      have k5 := key 5 (by omega)
      have k6 := key 6 (by omega)
      simp only [itCells, icells, List.getElem?_cons_zero, List.getElem?_cons_succ, Nat.add_zero] at k0 k1 k2 k3 k4 k5 k6
      have hji : j < its.length := by rw [unhide HITL]; exact hlt
      have hxe : its[j] = xs[j].it := by
        have : its[j]? = (xs.map LItem.it)[j]? := by rw [unhide HITS]
        rw [List.getElem?_eq_getElem hji, List.getElem?_map, List.getElem?_eq_getElem hlt] at this
        simpa using this
      have hrs := resTo_succ vals hji
      have his := inputsTo_succ hji
      have hah := (unhide HK).ahead j hji
      have hmem : its[j] ∈ its := List.getElem_mem hji
      have hcl := (unhide HK).clen _ hmem
      have hrl8 := (unhide HK).rlen _ hmem
      have hnum := (unhide HK).num _ hmem
      have hwid := (unhide HK).width _ hmem
      have hmono := inputsTo_mono its (i := j + 1) (j := its.length) (by omega)
      rw [hxe] at hrs his hah hcl hrl8 hnum hwid
      have hxi := (unhide HI).2 xs[j] (List.getElem_mem hlt)
      have hwx := unhide HW xs[j] (List.getElem_mem hlt)
      have hjc : (j : Int) < xs.length := by omega
      generalize xs[j] = x at *
      obtain ⟨co, cc, hcv⟩ := hxi.1.form
      obtain ⟨ro, rc, hrv⟩ := hxi.2.2.1.form
      obtain ⟨⟨nm, bT, mk, po, cs, dr, rl⟩, cv, rv0, zv⟩ := x
      simp only at k0 k1 k2 k3 k4 k5 k6 hcv hrv hrs his hah hcl hrl8 hnum hwid hwx
      subst hcv hrv
      have hb1 : Below wr.heap.size wr (wr.alloc (.cells #[.string nm, .bool bT, .int .i64 (mk : Int), .int .u8 po, .slice co cs.length cc, .int .i64 (dr : Int), .slice ro rl.length rc] 119)) := (Below.refl _ wr).alloc (Nat.le_refl _) _
      have hNi := alloc_last wr (.cells #[.string nm, .bool bT, .int .i64 (mk : Int), .int .u8 po, .slice co cs.length cc, .int .i64 (dr : Int), .slice ro rl.length rc] 119)
      have HX := hide ((hxi.below hb).below hb1)
      have HB1 := hide (below_after hb hb1)
      have HAH := hide hah
      have HNUM := hide hnum
      have HWID := hide hwid
      have HWX := hide hwx
      have HRST := hide hrs
      have HRS := hide (A.out.2.2.1.below hb1)
      have harr1 := (hb1.block _ (lt_of_block harr)).trans harr
      have HARR := hide harr1
      have HNI := hide hNi
      have hra : rs.length ≤ xs.length := by rw [unhide HRL]; exact hj
      clear key hx hc hm hgl hb1 hah hnum hwid hwx hxi hNi hxe hmem harr1
      cases bT with
      | true =>
        have hpad : (rs ++ List.replicate (xs.length - rs.length) rZero).length = xs.length := by simp; omega
        have HPAD : Hid (SlAt (wr.alloc (.cells #[.string nm, .bool true, .int .i64 (mk : Int), .int .u8 po, .slice co cs.length cc, .int .i64 (dr : Int), .slice ro rl.length rc] 119)) 3 (.slice (some ⟨w.heap.size, 0, none⟩) xs.length xs.length) (rs ++ List.replicate (xs.length - rs.length) rZero).length ((rs ++ List.replicate (xs.length - rs.length) rZero).flatMap rc3)) := hide (by
          rw [hpad]
          exact sl_of_arr (unhide HARR) (Nat.le_refl _) (by unfold maxLen; omega))
        have HIr := hide ((unhide HI).below (unhide HB1))
        have HAH2 : Hid (∀ c ∈ cs, ∃ i : Nat, placeP (xs.map LItem.it) c = (i : Int) ∧ i < (rs ++ List.replicate (xs.length - rs.length) rZero).length) := hide (fun c hc => by
          obtain ⟨i, h1, h2⟩ := unhide HAH c hc
          rw [unhide HITS] at h1
          exact ⟨i, h1, by rw [hpad]; omega⟩)
        have hpl : (rs ++ List.replicate (xs.length - rs.length) rZero).length ≤ 12 := by rw [hpad]; exact hlen
        have HCV : Hid ((cs.map fun c => ((rs ++ List.replicate (xs.length - rs.length) rZero).getD (placeP (xs.map LItem.it) c).toNat rZero).1) = colVals its ((resTo its vals j).map Prod.fst) ⟨nm, true, mk, po, cs, dr, rl⟩) := hide (by
          unfold colVals
          simp only
          refine List.map_congr_left fun c _ => ?_
          rw [A.out.2.2.1.fst, unhide HITS])
        clear hb harr hpad
        go_wp2_with fail
        go_region_with (first
          | (go_at_call 99; refine (evcols_any ⟨⟨nm, true, mk, po, cs, dr, rl⟩, .slice co cs.length cc, .slice ro rl.length rc, zv⟩ _ xs _ (rs ++ List.replicate (xs.length - rs.length) rZero) _ (by exact unhide HX) (by exact unhide HIr) (by exact unhide HPAD) hlen hpl hcl (by exact unhide HAH2)).mono ?_; rintro e w2 ⟨cvv, rfl, hb2, hcs⟩; simp only at hcs; rw [unhide HCV] at hcs; have HCS := hide hcs; have HB2 := hide (below_of_drew hb2); obtain ⟨⟨c0, c1, c2, c3, c4, c5, c6⟩, f0, f1, f2, f3, f4, f5, f6⟩ := cells7 (((below_of_drew hb2).block _ (lt_of_block (unhide HNI))).trans (unhide HNI)); have hsw2 := lt_of_block (((below_of_drew hb2).block _ (lt_of_block (unhide HNI))).trans (unhide HNI)); clear hcs hb2)
          | (go_at_call 98; refine (evtable_any ⟨⟨nm, true, mk, po, cs, dr, rl⟩, .slice co cs.length cc, .slice ro rl.length rc, zv⟩ _ (colVals its ((resTo its vals j).map Prod.fst) ⟨nm, true, mk, po, cs, dr, rl⟩) _ (by exact (unhide HX).below (unhide HB2)) (by exact unhide HWX) (by exact unhide HWID) (by exact unhide HNUM) (by rw [colVals_len]; exact unhide HCS) (by rw [colVals_len]) hrl8 hcl).mono ?_; rintro e w3 ⟨mv, rfl, hb3, ho3⟩; obtain ⟨mo, mc, hmv⟩ := (SlAt.of_owns ho3).form; subst hmv; have HO3 := hide ho3; have HB3 := hide (below_after (unhide HB2) hb3); obtain ⟨⟨e0, e1, e2⟩, q0, q1, q2, hsw3⟩ := res_cells (j := j) (n := xs.length) (((below_after (unhide HB2) hb3).block _ (lt_of_block (unhide HARR))).trans (unhide HARR)) (unhide HRL) hlt; clear ho3 hb3))
        all_goals
          obtain ⟨r1, r2, r3⟩ := res_step (g := w.heap.size) (j := j) (n := xs.length) (Nat.le_refl _) (below_after (unhide HB1) (unhide HB3)) ((unhide HRS).below (unhide HB3)) (((unhide HB3).block _ (lt_of_block (unhide HARR))).trans (unhide HARR)) (unhide HRL) hlt (tableP ⟨nm, true, mk, po, cs, dr, rl⟩ (colVals its ((resTo its vals j).map Prod.fst) ⟨nm, true, mk, po, cs, dr, rl⟩)) _ (owns_base (unhide HO3) (below_after (unhide HB1) (unhide HB2)).size) rfl
          have R1 := hide r1
          have R2 := hide r2
          have R3 := hide r3
          clear r1 r2 r3
          go_wp2
          go_roundg (xs.length - (j + 1))
          case measure => have := A.out.1; omega
          case rel =>
            refine ⟨j + 1, _, by omega, rfl, by go_num, by rw [his]; rfl, unhide R1, ?_, unhide R3⟩
            rw [unhide HRST]
            exact unhide R2
      | false =>
        have hic : inputsTo its j < vals.length := by
          rw [unhide HN]
          unfold inputsP
          simp only [Bool.false_eq_true, if_false] at his
          omega
        rcases (unhide HV) with ⟨h0, _⟩ | ⟨g2, cap2, hv2, hc2, hm2, hgl2, hx2⟩
        · omega
        simp only [Value.slice.injEq] at hv2
        obtain ⟨rfl, _, rfl⟩ := hv2
        have i0 : wr.cell? ⟨g2, inputsTo its j, none⟩ = some (.int .i64 vals[inputsTo its j]) := by
          rw [hb.cell (p := ⟨g2, inputsTo its j, none⟩) hgl2, hx2 _ (by omega)]
          simp [ints, hic]
        have i1 : (wr.alloc (.cells #[.string nm, .bool false, .int .i64 (mk : Int), .int .u8 po, .slice co cs.length cc, .int .i64 (dr : Int), .slice ro rl.length rc] 119)).cell? ⟨g2, inputsTo its j, none⟩ = some (.int .i64 vals[inputsTo its j]) := by
          rw [← i0]
          exact ((Below.refl _ wr).alloc (Nat.le_refl _) _).cell (p := ⟨g2, inputsTo its j, none⟩) (Nat.lt_of_lt_of_le hgl2 hb.size)
        have hicc : ((inputsTo its j : Nat) : Int) < vals.length := by omega
        have HGET : Hid (vals.getD (inputsTo its j) 0 = vals[inputsTo its j]) := hide (getD_at _ _ hic)
        generalize vals[inputsTo its j] = x at *
        have hsw := lt_of_block harr
        clear hb harr hx2 hc2 hm2 i0
        go_wp2_with fail
        refine (evnum_any _ _).mono ?_
        rintro e w2 ⟨rfl, hb2⟩
        obtain ⟨⟨e0, e1, e2⟩, q0, q1, q2, hsw3⟩ := res_cells (j := j) (n := xs.length) ((hb2.block _ (lt_of_block (unhide HARR))).trans (unhide HARR)) (unhide HRL) hlt
        obtain ⟨r1, r2, r3⟩ := res_step (g := w.heap.size) (j := j) (n := xs.length) (Nat.le_refl _) (below_after (unhide HB1) hb2) ((unhide HRS).below hb2) ((hb2.block _ (lt_of_block (unhide HARR))).trans (unhide HARR)) (unhide HRL) hlt (⟨0, x⟩, []) (.slice none 0 0) (World.ownsRow_nil _ _ _ _) rfl
        have R1 := hide r1
        have R2 := hide r2
        have R3 := hide r3
        clear hb2 r1 r2 r3
        go_wp2
        go_roundg (xs.length - (j + 1))
        case measure => have := A.out.1; omega
        case rel =>
          refine ⟨j + 1, _, by omega, rfl, by go_num, by rw [his]; simp, unhide R1, ?_, unhide R3⟩
          rw [unhide HRST]
          simp only [Bool.false_eq_true, if_false]
          rw [unhide HGET]
          exact unhide R2
    · have hje : j = xs.length := by omega
      have hjc : ¬ (j : Int) < xs.length := by omega
      have HSL : Hid (wr.ownsRow w.heap.size 128 3 (.slice (some ⟨w.heap.size, 0, none⟩) xs.length xs.length) rs.length (rs.flatMap rc3)) := hide (by
        have hr : rs.length = xs.length := by rw [unhide HRL, hje]
        rw [show flatZ rc3 rZero rs xs.length = rs.flatMap rc3 by rw [← hr]; exact flatZ_full _ _ _] at harr
        rw [hr]
        exact owns_of_arr harr (Nat.le_refl _) rfl (by unfold maxLen; omega) (by rw [flat_len rc3 3 (fun _ => rfl), hr]))
      have HRES : Hid (ResV w.heap.size wr rs (resP its vals)) := hide (by
        have := A.out.2.2.1
        rw [hje, ← unhide HITL] at this
        exact this)
      clear hje hb harr
      go_wp2
      go_ret
      have hsl := unhide HSL
      exact ⟨_, rfl, A.out.2.1, rs, unhide HRES, hsl⟩
end Go.Proofs.YthnggjaecngbiaaGreatDoor
