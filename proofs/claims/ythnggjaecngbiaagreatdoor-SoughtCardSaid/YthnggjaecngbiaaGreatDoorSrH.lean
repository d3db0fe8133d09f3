import Derived.Test.YthnggjaecngbiaaGreatDoorSrF
namespace Go.Proofs.YthnggjaecngbiaaGreatDoor
open Go.RowKit

def leastAns (its : List PItem) (nm : ByteArray) (many : Bool) : Option (List Int) × Int :=
  if namedP its nm then (if aloneP its (its.getD (placeP its nm).toNat noItem) then (leastP (its.getD (placeP its nm).toNat noItem).cols (its.getD (placeP its nm).toNat noItem).rules many (its.getD (placeP its nm).toNat noItem).cols.length [], 0) else (none, 6)) else (none, 4)
/-- What Gap and Overlap leave. -/
def LeastAns (its : List PItem) (nm : ByteArray) (many : Bool) (w : World) (e : Ending) (w' : World) : Prop :=
  ∃ so sc, e = .returned (.tuple #[.slice so ((leastAns its nm many).1.getD []).length sc, .bool (leastAns its nm many).1.isSome, .int .i64 (leastAns its nm many).2]) ∧ Below w.heap.size w w' ∧ w'.ownsRow w.heap.size 3 1 (.slice so ((leastAns its nm many).1.getD []).length sc) ((leastAns its nm many).1.getD []).length (ints ((leastAns its nm many).1.getD []))

set_option maxRecDepth 100000 in
set_option maxHeartbeats 1600000 in
theorem leastL_any (x : LItem) (many : Bool) (w : World) (hx : ItemV w x) (hr8 : x.it.rules.length ≤ 8) (hc3 : x.it.cols.length ≤ 3) (hwd : ∀ r ∈ x.it.rules, r.tests.length = x.it.cols.length ∧ ∀ t ∈ r.tests, WfT t) :
    Calls Tryz.prog 75 #[iv x.it x.cv x.rv, .func (.func (wantFn many)) #[] #[]] w (LeastOf x.it.cols x.it.rules many x.it.cols.length [] (.slice none 0 0) w) := by
  have HLB := hide (fun w' (h : Below w.heap.size w w') => least_any x many hr8 hc3 hwd x.it.cols.length [] (.slice none 0 0) w' (hx.below h) (Or.inl ⟨rfl, _, _, rfl⟩) (by simp))
  obtain ⟨it, cv, rv0, zv⟩ := x
  obtain ⟨co, cc, hcv⟩ := hx.1.form
  obtain ⟨ro, rc, hrv⟩ := hx.2.2.1.form
  simp only at hcv hrv
  subst hcv hrv
  simp only at hr8 hc3 HLB ⊢
  simp only [iv, icells] at HLB ⊢
  obtain ⟨wf, hwf⟩ : ∃ wf, wantFn many = wf := ⟨_, rfl⟩
  rw [hwf] at HLB ⊢
  obtain ⟨w1, hw1⟩ : ∃ w1, w1 = w.alloc (.cells #[.string it.name, .bool it.isT, .int .i64 (it.marks : Int), .int .u8 it.policy, .slice co it.cols.length cc, .int .i64 (it.drops : Int), .slice ro it.rules.length rc] 119) := ⟨_, rfl⟩
  have HB1 : Hid (Below w.heap.size w w1) := hide (by rw [hw1]; exact (Below.refl _ w).alloc (Nat.le_refl _) _)
  clear hx hwd hwf
  go_enter Tryz.func75, Tryz.ntmps75
  go_wp2_with fail
  rw [← hw1]
  clear hw1
  refine (unhide HLB _ (by first | exact unhide HB1 | exact (unhide HB1).drew)).mono ?_
  rintro e w2 (⟨hn, rfl, hb2⟩ | ⟨r, sl, hr, rfl, hb2, how⟩)
  · have HB2 := hide (below_after (unhide HB1) hb2)
    have HN := hide hn
    clear hn hb2
    go_wp2_with fail
    go_ret
    exact Or.inl ⟨unhide HN, rfl, unhide HB2⟩
  · have HB2 := hide (below_after (unhide HB1) hb2)
    have HR := hide hr
    have how2 : (it.cols.length = 0 ∧ sl = .slice none 0 0) ∨ (0 < it.cols.length ∧ w2.ownsRow w.heap.size 3 1 sl r.length (ints r)) := by
      rcases how with h | ⟨h, ho⟩
      · exact Or.inl h
      · exact Or.inr ⟨h, owns_base ho (unhide HB1).size⟩
    have hform : ∃ o n c, sl = .slice o n c := by
      rcases how2 with ⟨_, h⟩ | ⟨_, h⟩
      · exact ⟨_, _, _, h⟩
      · obtain ⟨o, c, h'⟩ := (SlAt.of_owns h).form
        exact ⟨_, _, _, h'⟩
    obtain ⟨so, sn, sc, rfl⟩ := hform
    have HOW := hide how2
    clear hr hb2 how how2
    go_wp2_with fail
    go_ret
    exact Or.inr ⟨r, _, unhide HR, rfl, unhide HB2, unhide HOW⟩

set_option maxRecDepth 100000 in
set_option maxHeartbeats 3200000 in
theorem pseek_any (g : Nat) (its : List PItem) (nm : ByteArray) (many : Bool) (w : World) (h : PlanAt w g its) :
    Calls Tryz.prog 50 #[.pointer (some ⟨g, 0, none⟩), .string nm, .func (.func (wantFn many)) #[] #[]] w (LeastAns its nm many w) := by
  obtain ⟨v, xs, hN, hit, hxs, hwf, hok⟩ := h
  obtain ⟨ao, cap, rfl⟩ := hit.1.form
  have hlen : xs.length ≤ 12 := by have := hok.len; rw [← hxs] at this; simpa using this
  have HN := hide hN
  have HI := hide hit
  have HX := hide hxs
  have HK := hide hok
  have HW := hide hwf
  clear hN hit hxs hok hwf
  cases hn : namedP its nm with
  | false =>
    have HP := hide (placeP_out hn)
    have HL : Hid (leastAns its nm many = (none, 4)) := hide (by unfold leastAns; rw [if_neg (by rw [hn]; simp)])
    generalize wantFn many = wf at *
    clear hn
    go_enter Tryz.func50, Tryz.ntmps50
    go_wp2_with fail
    refine (all_any g _ _ (unhide HN) ⟨_, _, _, rfl⟩).mono ?_
    rintro e w1 ⟨rfl, rfl⟩
    go_wp2_with fail
    refine (place_any _ xs nm _ (unhide HI) (by omega)).mono ?_
    rintro e w2 ⟨rfl, hb2⟩
    rw [unhide HX, unhide HP]
    have HB2 := hide hb2
    clear hb2
    go_wp2_with fail
    go_ret3
    refine ⟨none, 0, by rw [unhide HL]; rfl, unhide HB2, by rw [unhide HL]; exact World.ownsRow_nil _ _ _ _⟩
  | true =>
    obtain ⟨i, hp, hi⟩ := placeP_in hn
    have hix : i < xs.length := by rw [← unhide HX] at hi; simpa using hi
    have hxe : its[i] = xs[i].it := by simp [← unhide HX]
    have hgd : its.getD (placeP its nm).toNat noItem = xs[i].it := by rw [hp, Int.toNat_natCast, getD_at _ _ hi, hxe]
    have HL : Hid (leastAns its nm many = if aloneP its xs[i].it then (leastP xs[i].it.cols xs[i].it.rules many xs[i].it.cols.length [], 0) else (none, 6)) := hide (by unfold leastAns; rw [if_pos hn, hgd])
    have HP := hide hp
    have hmem : its[i] ∈ its := List.getElem_mem hi
    have hcl := (unhide HK).clen its[i] hmem
    have hrl := (unhide HK).rlen its[i] hmem
    have hwd := (unhide HK).width its[i] hmem
    have hcan := (unhide HK).can its[i] hmem
    rw [hxe] at hcl hrl hwd hcan
    have hpos : aloneP its xs[i].it = true → 0 < xs[i].it.cols.length := fun ha => by
      rcases hcan with hc | hc
      · have := hc.isT
        unfold aloneP at ha
        rw [this] at ha
        cases ha
      · exact List.length_pos_iff.2 hc.ne
    have hwi := unhide HW xs[i] (List.getElem_mem hix)
    have HLS := hide (fun w' (hb' : Below w.heap.size w w') => leastL_any xs[i] many w' (((unhide HI).2 xs[i] (List.getElem_mem hix)).below hb') hrl hcl (fun r hr => ⟨hwd r hr, (hwi.rules r hr).tests⟩))
    have HRA := hide (fun w' (hb' : Below w.heap.size w w') => readsAlone_any (.slice ao xs.length cap) xs i w' ((unhide HI).below hb') hix (by rw [unhide HX]; exact unhide HK))
    rw [unhide HX] at HRA
    have hx := (unhide HI).2 xs[i] (List.getElem_mem hix)
    obtain ⟨co, cc, hcv⟩ := hx.1.form
    obtain ⟨ro, rc, hrv⟩ := hx.2.2.1.form
    have hcells : ∀ w', Below w.heap.size w w' → ∃ gi, ao = some ⟨gi, 0, none⟩ ∧ gi < w'.heap.size ∧ w'.cell? ⟨gi, i * 7, none⟩ = some (.string xs[i].it.name) ∧ w'.cell? ⟨gi, i * 7 + 1, none⟩ = some (.bool xs[i].it.isT) ∧ w'.cell? ⟨gi, i * 7 + 2, none⟩ = some (.int .i64 (xs[i].it.marks : Int)) ∧ w'.cell? ⟨gi, i * 7 + 3, none⟩ = some (.int .u8 xs[i].it.policy) ∧ w'.cell? ⟨gi, i * 7 + 4, none⟩ = some (.slice co xs[i].it.cols.length cc) ∧ w'.cell? ⟨gi, i * 7 + 5, none⟩ = some (.int .i64 (xs[i].it.drops : Int)) ∧ w'.cell? ⟨gi, i * 7 + 6, none⟩ = some (.slice ro xs[i].it.rules.length rc) := fun w' hb' => by
      rcases (unhide HI).1.below hb' with ⟨h0, _⟩ | ⟨gi, cap', hv, hc, hm, hgl, hcell⟩
      · omega
      simp only [Value.slice.injEq] at hv
      obtain ⟨rfl, _, rfl⟩ := hv
      have key : ∀ q, q < 7 → w'.cell? ⟨gi, i * 7 + q, none⟩ = (itCells xs[i])[q]? := fun q hq => by
        rw [hcell _ (by omega)]
        exact flat_at itCells 7 (fun _ => rfl) xs i q hix hq
      have k0 := key 0 (by omega)
      have k4 := key 4 (by omega)
      have k6 := key 6 (by omega)
      simp only [itCells, icells, List.getElem?_cons_zero, List.getElem?_cons_succ, Nat.add_zero] at k0 k4 k6
      rw [hcv] at k4
      rw [hrv] at k6
      exact ⟨gi, rfl, hgl, k0, key 1 (by omega), key 2 (by omega), key 3 (by omega), k4, key 5 (by omega), k6⟩
    have HCE := hide hcells
    simp only [iv, icells] at HLS
    rw [hcv, hrv] at HLS
    have hic : (i : Int) < xs.length := by omega
    have hin : ¬ (i : Int) < 0 := by omega
    have HPO := hide hpos
    clear hn hp hxe hgd hmem hcl hrl hwd hcan hpos hwi hx hcv hrv hcells
    generalize xs[i].it = it at *
    generalize wantFn many = wf at *
    go_enter Tryz.func50, Tryz.ntmps50
    go_wp2_with fail
    refine (all_any g _ _ (unhide HN) ⟨_, _, _, rfl⟩).mono ?_
    rintro e w1 ⟨rfl, rfl⟩
    go_wp2_with fail
    refine (place_any _ xs nm _ (unhide HI) (by omega)).mono ?_
    rintro e w2 ⟨rfl, hb2⟩
    rw [unhide HX, unhide HP]
    have HB2 := hide hb2
    have HN2 := hide ((hb2.block _ (lt_of_block (unhide HN))).trans (unhide HN))
    clear hb2
    go_wp2_with fail
    refine (all_any g _ _ (unhide HN2) ⟨_, _, _, rfl⟩).mono ?_
    rintro e w3 ⟨rfl, rfl⟩
    go_wp2_with fail
    refine (unhide HRA _ (unhide HB2)).mono ?_
    rintro e w4 ⟨rfl, hb4⟩
    have HB4 := hide (below_after (unhide HB2) hb4)
    have HN4 := hide ((hb4.block _ (lt_of_block (unhide HN2))).trans (unhide HN2))
    clear hb4
    cases hA : aloneP its it with
    | false =>
      have HA : Hid (leastAns its nm many = (none, 6)) := hide (by rw [unhide HL, hA]; rfl)
      clear hA
      go_wp2_with fail
      go_ret3
      refine ⟨none, 0, by rw [unhide HA]; rfl, unhide HB4, by rw [unhide HA]; exact World.ownsRow_nil _ _ _ _⟩
    | true =>
      have HA : Hid (leastAns its nm many = (leastP it.cols it.rules many it.cols.length [], 0)) := hide (by rw [unhide HL, hA]; rfl)
      have hcp := unhide HPO hA
      clear hA
      go_wp2_with fail
      refine (all_any g _ _ (unhide HN4) ⟨_, _, _, rfl⟩).mono ?_
      rintro e w5 ⟨rfl, rfl⟩
      obtain ⟨gi, rfl, hgi, k0, k1, k2, k3, k4, k5, k6⟩ := unhide HCE _ (unhide HB4)
      have hne : ∀ (w : World) (a : Option Addr) (n c : Nat), (binOp .neq 25 (.slice a n c) (.slice none 0 0)).run Tryz.prog w = .ok (.bool (!a.isNone)) w := fun w a n c => run_neq_slice_nil_any w _ _ a n c 0 0 Tryz.underlying25
      go_wp2_with fail
      refine (unhide HLS _ (unhide HB4)).mono ?_
      rintro e w6 (⟨hn6, rfl, hb6⟩ | ⟨r, sl, hr6, rfl, hb6, how⟩)
      · have HA2 : Hid (leastAns its nm many = (none, 0)) := hide (by rw [unhide HA, hn6])
        have HB6 := hide (below_after (unhide HB4) hb6)
        clear hn6 hb6 k0 k1 k2 k3 k4 k5 k6
        go_wp2_with fail
        go_ret3
        refine ⟨none, 0, by rw [unhide HA2]; rfl, unhide HB6, by rw [unhide HA2]; exact World.ownsRow_nil _ _ _ _⟩
      · have HA2 : Hid (leastAns its nm many = (some r, 0)) := hide (by rw [unhide HA, hr6])
        have HB6 := hide (below_after (unhide HB4) hb6)
        have hrl : 0 < r.length := by
          have := searchC_len _ _ _ _ _ hr6
          omega
        have hown : w6.ownsRow w1.heap.size 3 1 sl r.length (ints r) := by
          rcases how with ⟨h0, _⟩ | ⟨_, ho⟩
          · omega
          · exact owns_base ho (unhide HB4).size
        obtain ⟨gz, cz, rfl, -⟩ := owns_addr hown hrl
        have HO6 := hide hown
        clear hr6 hb6 hown how hrl k0 k1 k2 k3 k4 k5 k6
        go_wp2_with fail
        go_ret3
        refine ⟨_, _, by rw [unhide HA2]; rfl, unhide HB6, by rw [unhide HA2]; exact unhide HO6⟩

set_option maxRecDepth 100000 in
theorem gap_any (g : Nat) (its : List PItem) (nm : ByteArray) (w : World) (h : PlanAt w g its) :
    Calls Tryz.prog 30 #[.pointer (some ⟨g, 0, none⟩), .string nm] w (LeastAns its nm false w) := by
  have hmf : ∀ (fn : Fn) (first cap : Array Value) (w : World), (Instr.makeFunc fn first cap).run Tryz.prog w = .ok (.func fn first cap) w := fun _ _ _ _ => rfl
  have HS := hide (pseek_any g its nm false w h)
  clear h
  simp only [wantFn] at HS
  go_enter Tryz.func30, Tryz.ntmps30
  go_wp2_with fail
  refine (unhide HS).mono ?_
  rintro e w1 ⟨so, sc, rfl, hb, ho⟩
  have HB := hide hb
  have HO := hide ho
  clear hb ho
  go_wp2_with fail
  go_ret3
  exact ⟨so, sc, rfl, unhide HB, unhide HO⟩
set_option maxRecDepth 100000 in
theorem overlap_any (g : Nat) (its : List PItem) (nm : ByteArray) (w : World) (h : PlanAt w g its) :
    Calls Tryz.prog 31 #[.pointer (some ⟨g, 0, none⟩), .string nm] w (LeastAns its nm true w) := by
  have hmf : ∀ (fn : Fn) (first cap : Array Value) (w : World), (Instr.makeFunc fn first cap).run Tryz.prog w = .ok (.func fn first cap) w := fun _ _ _ _ => rfl
  have HS := hide (pseek_any g its nm true w h)
  clear h
  simp only [wantFn] at HS
  go_enter Tryz.func31, Tryz.ntmps31
  go_wp2_with fail
  refine (unhide HS).mono ?_
  rintro e w1 ⟨so, sc, rfl, hb, ho⟩
  have HB := hide hb
  have HO := hide ho
  clear hb ho
  go_wp2_with fail
  go_ret3
  exact ⟨so, sc, rfl, unhide HB, unhide HO⟩
end Go.Proofs.YthnggjaecngbiaaGreatDoor
