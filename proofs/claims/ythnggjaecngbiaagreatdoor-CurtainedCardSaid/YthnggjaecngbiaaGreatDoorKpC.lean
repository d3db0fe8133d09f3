import Derived.Test.YthnggjaecngbiaaGreatDoorFcB
namespace Go.Proofs.YthnggjaecngbiaaGreatDoor
open Go.RowKit

/-- An item's line. -/
def isTab (s : ByteArray) : Bool := decide (6 < s.size) && ((s.extract 0 6).toList == [116, 97, 98, 108, 101, 32])
def nameAt (s : ByteArray) : Nat := if isTab s then 6 else 3
def anyBack (s : ByteArray) (j : Nat) : Bool := (s.data.toList.take j).any (· == 92)
structure KItem where
  name : ByteArray
  tab : Bool
  drops : Bool
def itemK (s : ByteArray) : KItem := ⟨s.extract (nameAt s) (lowEnd s (nameAt s)), isTab s, anyBack s s.size⟩
def kcells (x : KItem) : List Value := [.string x.name, .bool x.tab, .bool x.drops]

theorem extract_nil (s : ByteArray) (k : Nat) : s.extract k k = ⟨#[]⟩ := by
  apply ByteArray.ext
  rw [ByteArray.data_extract]
  simp
  omega
theorem extract_snoc (s : ByteArray) {a i : Nat} (h : a ≤ i) (_hi : i < s.size) : s.extract a i ++ s.extract i (i + 1) = s.extract a (i + 1) := by
  apply ByteArray.ext
  rw [ByteArray.data_append, ByteArray.data_extract, ByteArray.data_extract, ByteArray.data_extract, Array.extract_append_extract]
  congr 1 <;> omega
theorem anyBack_succ (s : ByteArray) (j : Nat) (h : j < s.size) : anyBack s (j + 1) = (anyBack s j || decide (byteAt s j = 92)) := by
  unfold anyBack
  have hl : j < s.data.toList.length := by simpa using h
  rw [List.take_succ_eq_append_getElem hl, List.any_append, byteAt_in h]
  congr 1
  simp only [List.any_cons, List.any_nil, Bool.or_false, Array.getElem_toList]
  rw [Bool.eq_iff_iff]
  simp only [beq_iff_eq, decide_eq_true_eq]
  constructor
  · intro e
    have : s[j] = 92 := e
    rw [this]; rfl
  · intro e
    have : s[j] = 92 := UInt8.toNat_inj.1 (by have : (92 : UInt8).toNat = 92 := rfl; omega)
    exact this

set_option maxRecDepth 100000 in
set_option maxHeartbeats 1600000 in
theorem kitem_any (s : ByteArray) (w : World) (hs : s.size ≤ 10000000000) :
    Calls Tryz.prog 41 #[.string s] w fun e w' => e = .returned (.agg #[.string (itemK s).name, .bool (itemK s).tab, .bool (itemK s).drops]) ∧ Below w.heap.size w w' := by
  cases htab : isTab s with
  | true =>
    have h6 : 6 < s.size := by unfold isTab at htab; simp at htab; exact htab.1
    have h6c : (6 : Int) < s.size := by omega
    have h6d : (6 : Int) ≤ s.size := by omega
    have hx : (s.extract 0 6).toList == [116, 97, 98, 108, 101, 32] := by unfold isTab at htab; rw [Bool.and_eq_true] at htab; exact htab.2
    have HTAB := hide htab
    clear htab
    go_enter Tryz.func41, Tryz.ntmps41
    go_wp2_with fail
    obtain ⟨w0, hw0⟩ : ∃ w0, w0 = (w.alloc (.cells #[.string ⟨#[]⟩, .bool false, .bool false] 45)).alloc (.cells #[.string ⟨#[]⟩, .bool true, .bool false] 45) := ⟨_, rfl⟩
    have hb0 : Below w.heap.size w w0 := by rw [hw0]; exact ((Below.refl _ w).alloc (Nat.le_refl _) _).alloc (by simp) _
    have hN1 : w0.heap[w.heap.size + 1]? = some (.cells #[.string ⟨#[]⟩, .bool true, .bool false] 45) := by
      rw [hw0]
      have := alloc_last (w.alloc (.cells #[.string ⟨#[]⟩, .bool false, .bool false] 45)) (.cells #[.string ⟨#[]⟩, .bool true, .bool false] 45)
      simpa using this
    have hN0 : w0.heap[w.heap.size]? = some (.cells #[.string ⟨#[]⟩, .bool false, .bool false] 45) := by
      rw [hw0, Below.heap_alloc _ _ _ (by simp)]; exact alloc_last w _
    rw [← hw0]
    clear hw0
    have hat : nameAt s = 6 := by unfold nameAt; rw [unhide HTAB]; rfl
    have HAT := hide hat
    clear hat
    go_loopg [5] (s.size - 6) (fun g i wr => ∃ j : Nat, 6 ≤ j ∧ (j ≤ s.size ∨ j = 6) ∧ g = s.size - j ∧ i = .int .i64 (j : Int) ∧ skipTo isLow s (s.size - 6) 6 = skipTo isLow s (s.size - j) j ∧ Below w.heap.size w wr ∧ wr.heap[w.heap.size]? = some (.cells #[.string ⟨#[]⟩, .bool false, .bool false] 45) ∧ wr.heap[w.heap.size + 1]? = some (.cells #[.string (s.extract 6 j), .bool true, .bool false] 45))
    case atStart => exact ⟨6, by omega, Or.inr rfl, rfl, rfl, rfl, hb0, hN0, by rw [extract_nil]; exact hN1⟩
    case round =>
      obtain ⟨j, hj1, hj2, hg, rfl, hsk, hb, hn0, hn1⟩ := hrel
      have A : Aside (gk = s.size - j ∧ skipTo isLow s (s.size - 6) 6 = skipTo isLow s (s.size - j) j ∧ Below w.heap.size w wr ∧ wr.heap[w.heap.size]? = some (.cells #[.string ⟨#[]⟩, .bool false, .bool false] 45) ∧ wr.heap[w.heap.size + 1]? = some (.cells #[.string (s.extract 6 j), .bool true, .bool false] 45)) := ⟨hg, hsk, hb, hn0, hn1⟩
      obtain ⟨⟨c0, c1, c2⟩, f0, f1, f2⟩ := box3 hn1
      have hsn := lt_of_block hn1
      clear hg hsk hb hn0 hn1 hb0 hN0 hN1
      by_cases hgo : j < s.size ∧ isLow (byteAt s j) = true
      · obtain ⟨hlt, hlow⟩ := hgo
        have hjc : (j : Int) < s.size := by omega
        have hba := byteAt_in hlt
        have hl1 : (97 : Int) ≤ (s[j].toNat : Int) := by rw [← hba]; unfold isLow at hlow; simp at hlow; exact hlow.1
        have hl2 : (s[j].toNat : Int) ≤ 122 := by rw [← hba]; unfold isLow at hlow; simp at hlow; exact hlow.2
        have hj1c : (j : Int) + 1 ≤ s.size := by omega
        have hjn : ((j : Int) + 1).toNat = j + 1 := by omega
        have HSK := hide (skipTo_step hlt hlow)
        have hszx := extract_le s 6 j (by omega)
        have hszy := extract_le s j (j + 1) (by omega)
        have hsum : (s.extract 6 j).size + (s.extract j (j + 1)).size ≤ 100000000000 := by omega
        clear hba hlow
        go_wp2_with fail
        go_region
        all_goals
          go_wp2
          go_roundg (s.size - (j + 1))
          case measure => have := A.out.1; omega
          case rel =>
            refine ⟨j + 1, by omega, Or.inl (by omega), rfl, by go_num, by rw [A.out.2.1, unhide HSK], by first | exact A.out.2.2.1.setCell (p := ⟨w.heap.size + 1, 0, none⟩) (by simp only; omega) _ | exact (A.out.2.2.1.setCell (p := ⟨w.heap.size + 1, 0, none⟩) (by simp only; omega) _).drew, ?_, ?_⟩
            · first | (rw [Below.heap_setCell _ _ _ _ (by simp only; omega)]; exact A.out.2.2.2.1) | (show (World.setCell _ _ _).heap[_]? = _; rw [Below.heap_setCell _ _ _ _ (by simp only; omega)]; exact A.out.2.2.2.1)
            · first | (rw [heap_set_same A.out.2.2.2.2]; rfl) | (show (World.setCell _ _ _).heap[_]? = _; rw [heap_set_same A.out.2.2.2.2]; rfl)
      · have hend : lowEnd s 6 = j := by
          unfold lowEnd
          rw [A.out.2.1]
          refine skipTo_stop ?_
          by_cases hlt : j < s.size
          · cases hb : isLow (byteAt s j) with
            | false => rfl
            | true => exact absurd ⟨hlt, hb⟩ hgo
          · rw [byteAt_out (by omega)]; rfl
        have HEND := hide hend
        clear hend
        have hexit : (¬ (j : Int) < s.size) ∨ ((j : Int) < s.size ∧ ∃ h : j < s.size, (¬ (97 : Int) ≤ (s[j].toNat : Int)) ∨ ((97 : Int) ≤ (s[j].toNat : Int) ∧ ¬ (s[j].toNat : Int) ≤ 122)) := by
          by_cases hlt : j < s.size
          · right
            refine ⟨by omega, hlt, ?_⟩
            have hba := byteAt_in hlt
            have hnl : ¬ isLow (byteAt s j) = true := fun h => hgo ⟨hlt, h⟩
            unfold isLow at hnl
            rw [hba] at hnl
            simp only [decide_eq_true_eq] at hnl
            omega
          · left; omega
        clear hgo
        rcases hexit with h1 | ⟨h1, hlt, h2 | ⟨h2, h3⟩⟩
        all_goals
          go_wp2_with fail
          go_loopg [6] s.size (fun g i wx => ∃ m : Nat, m ≤ s.size ∧ g = s.size - m ∧ i = .int .i64 (m : Int) ∧ Below w.heap.size w wx ∧ wx.heap[w.heap.size]? = some (.cells #[.string ⟨#[]⟩, .bool false, .bool false] 45) ∧ wx.heap[w.heap.size + 1]? = some (.cells #[.string (s.extract 6 j), .bool true, .bool (anyBack s m)] 45))
          case atStart => exact ⟨0, by omega, rfl, rfl, A.out.2.2.1, A.out.2.2.2.1, A.out.2.2.2.2⟩
          case round =>
            obtain ⟨m, hm, hg, rfl, hb, hn0, hn1⟩ := hrel
            have B : Aside (gk = s.size - m ∧ Below w.heap.size w wr ∧ wr.heap[w.heap.size]? = some (.cells #[.string ⟨#[]⟩, .bool false, .bool false] 45) ∧ wr.heap[w.heap.size + 1]? = some (.cells #[.string (s.extract 6 j), .bool true, .bool (anyBack s m)] 45)) := ⟨hg, hb, hn0, hn1⟩
            clear c0 c1 c2 f0 f1 f2 hsn
            obtain ⟨⟨c0, c1, c2⟩, f0, f1, f2⟩ := box3 hn1
            obtain ⟨⟨r0, r1, r2⟩, q0, q1, q2⟩ := box3 hn0
            have hsn := lt_of_block hn1
            have hsn0 := lt_of_block hn0
            clear hg hb hn0 hn1
            by_cases hmt : m < s.size
            · have hmc : (m : Int) < s.size := by omega
              have HSU : Hid (anyBack s (m + 1) = (anyBack s m || ((s[m].toNat : Int) == 92))) := hide (by rw [anyBack_succ s m hmt, byteAt_in hmt]; congr 1)
              cases hab : anyBack s m with
              | true =>
                rw [hab] at c2
                have HAB := hide hab
                clear hab
                go_wp2_with fail
                go_roundg (s.size - (m + 1))
                case measure => have := B.out.1; omega
                case rel =>
                  refine ⟨m + 1, by omega, rfl, by go_num, B.out.2.1.setCell (p := ⟨w.heap.size + 1, 2, none⟩) (by simp only; omega) _, ?_, ?_⟩
                  · rw [Below.heap_setCell _ _ _ _ (by simp only; omega)]; exact B.out.2.2.1
                  · rw [heap_set_same B.out.2.2.2, unhide HSU, unhide HAB]; rfl
              | false =>
                rw [hab] at c2
                have HAB := hide hab
                clear hab
                go_wp2_with fail
                go_roundg (s.size - (m + 1))
                case measure => have := B.out.1; omega
                case rel =>
                  refine ⟨m + 1, by omega, rfl, by go_num, B.out.2.1.setCell (p := ⟨w.heap.size + 1, 2, none⟩) (by simp only; omega) _, ?_, ?_⟩
                  · rw [Below.heap_setCell _ _ _ _ (by simp only; omega)]; exact B.out.2.2.1
                  · rw [heap_set_same B.out.2.2.2, unhide HSU, unhide HAB]; rfl
            · have hme : m = s.size := by omega
              have hmc : ¬ (m : Int) < s.size := by omega
              have HME := hide hme
              clear hme
              go_wp2_with fail
              obtain ⟨⟨d0, d1, d2⟩, _⟩ := box3 (box3_set (x := .string (s.extract 6 j)) (y := .bool true) (z := .bool (anyBack s m)) B.out.2.2.1)
              refine bodyPost_ret (v := .agg #[.string (s.extract 6 j), .bool true, .bool (anyBack s m)]) (by simp [results, Tryz.results41, go_sem, d0, d1, d2]) rfl ⟨?_, below_set3 _ _ _ B.out.2.1 (Nat.le_refl _)⟩
              unfold itemK
              rw [unhide HAT, unhide HEND, unhide HTAB, unhide HME]
  | false =>
    have htc : (¬ (6 : Int) < s.size) ∨ ((6 : Int) < s.size ∧ (6 : Int) ≤ s.size ∧ ((s.extract 0 6).toList == [116, 97, 98, 108, 101, 32]) = false) := by
      unfold isTab at htab
      rw [Bool.and_eq_false_iff] at htab
      by_cases h6 : 6 < s.size
      · right
        refine ⟨by omega, by omega, ?_⟩
        rcases htab with h | h
        · simp at h; omega
        · exact h
      · left; omega
    have HTAB := hide htab
    clear htab
    rcases htc with h6 | ⟨h6c, h6d, hx⟩
    all_goals
      go_enter Tryz.func41, Tryz.ntmps41
      go_wp2_with fail
      obtain ⟨w0, hw0⟩ : ∃ w0, w0 = (w.alloc (.cells #[.string ⟨#[]⟩, .bool false, .bool false] 45)).alloc (.cells #[.string ⟨#[]⟩, .bool false, .bool false] 45) := ⟨_, rfl⟩
      have hb0 : Below w.heap.size w w0 := by rw [hw0]; exact ((Below.refl _ w).alloc (Nat.le_refl _) _).alloc (by simp) _
      have hN1 : w0.heap[w.heap.size + 1]? = some (.cells #[.string ⟨#[]⟩, .bool false, .bool false] 45) := by
        rw [hw0]
        have := alloc_last (w.alloc (.cells #[.string ⟨#[]⟩, .bool false, .bool false] 45)) (.cells #[.string ⟨#[]⟩, .bool false, .bool false] 45)
        simpa using this
      have hN0 : w0.heap[w.heap.size]? = some (.cells #[.string ⟨#[]⟩, .bool false, .bool false] 45) := by
        rw [hw0, Below.heap_alloc _ _ _ (by simp)]; exact alloc_last w _
      rw [← hw0]
      clear hw0
      have hat : nameAt s = 3 := by unfold nameAt; rw [unhide HTAB]; rfl
      have HAT := hide hat
      clear hat
      go_loopg [5] (s.size - 3) (fun g i wr => ∃ j : Nat, 3 ≤ j ∧ (j ≤ s.size ∨ j = 3) ∧ g = s.size - j ∧ i = .int .i64 (j : Int) ∧ skipTo isLow s (s.size - 3) 3 = skipTo isLow s (s.size - j) j ∧ Below w.heap.size w wr ∧ wr.heap[w.heap.size]? = some (.cells #[.string ⟨#[]⟩, .bool false, .bool false] 45) ∧ wr.heap[w.heap.size + 1]? = some (.cells #[.string (s.extract 3 j), .bool false, .bool false] 45))
      case atStart => exact ⟨3, by omega, Or.inr rfl, rfl, rfl, rfl, hb0, hN0, by rw [extract_nil]; exact hN1⟩
      case round =>
        obtain ⟨j, hj1, hj2, hg, rfl, hsk, hb, hn0, hn1⟩ := hrel
        have A : Aside (gk = s.size - j ∧ skipTo isLow s (s.size - 3) 3 = skipTo isLow s (s.size - j) j ∧ Below w.heap.size w wr ∧ wr.heap[w.heap.size]? = some (.cells #[.string ⟨#[]⟩, .bool false, .bool false] 45) ∧ wr.heap[w.heap.size + 1]? = some (.cells #[.string (s.extract 3 j), .bool false, .bool false] 45)) := ⟨hg, hsk, hb, hn0, hn1⟩
        obtain ⟨⟨c0, c1, c2⟩, f0, f1, f2⟩ := box3 hn1
        have hsn := lt_of_block hn1
        clear hg hsk hb hn0 hn1 hb0 hN0 hN1
        by_cases hgo : j < s.size ∧ isLow (byteAt s j) = true
        · obtain ⟨hlt, hlow⟩ := hgo
          have hjc : (j : Int) < s.size := by omega
          have hba := byteAt_in hlt
          have hl1 : (97 : Int) ≤ (s[j].toNat : Int) := by rw [← hba]; unfold isLow at hlow; simp at hlow; exact hlow.1
          have hl2 : (s[j].toNat : Int) ≤ 122 := by rw [← hba]; unfold isLow at hlow; simp at hlow; exact hlow.2
          have hj1c : (j : Int) + 1 ≤ s.size := by omega
          have hjn : ((j : Int) + 1).toNat = j + 1 := by omega
          have HSK := hide (skipTo_step hlt hlow)
          have hszx := extract_le s 3 j (by omega)
          have hszy := extract_le s j (j + 1) (by omega)
          have hsum : (s.extract 3 j).size + (s.extract j (j + 1)).size ≤ 100000000000 := by omega
          clear hba hlow
          go_wp2_with fail
          go_region
          all_goals
            go_wp2
            go_roundg (s.size - (j + 1))
            case measure => have := A.out.1; omega
            case rel =>
              refine ⟨j + 1, by omega, Or.inl (by omega), rfl, by go_num, by rw [A.out.2.1, unhide HSK], by first | exact A.out.2.2.1.setCell (p := ⟨w.heap.size + 1, 0, none⟩) (by simp only; omega) _ | exact (A.out.2.2.1.setCell (p := ⟨w.heap.size + 1, 0, none⟩) (by simp only; omega) _).drew, ?_, ?_⟩
              · first | (rw [Below.heap_setCell _ _ _ _ (by simp only; omega)]; exact A.out.2.2.2.1) | (show (World.setCell _ _ _).heap[_]? = _; rw [Below.heap_setCell _ _ _ _ (by simp only; omega)]; exact A.out.2.2.2.1)
              · first | (rw [heap_set_same A.out.2.2.2.2]; rfl) | (show (World.setCell _ _ _).heap[_]? = _; rw [heap_set_same A.out.2.2.2.2]; rfl)
        · have hend : lowEnd s 3 = j := by
            unfold lowEnd
            rw [A.out.2.1]
            refine skipTo_stop ?_
            by_cases hlt : j < s.size
            · cases hb : isLow (byteAt s j) with
              | false => rfl
              | true => exact absurd ⟨hlt, hb⟩ hgo
            · rw [byteAt_out (by omega)]; rfl
          have HEND := hide hend
          clear hend
          have hexit : (¬ (j : Int) < s.size) ∨ ((j : Int) < s.size ∧ ∃ h : j < s.size, (¬ (97 : Int) ≤ (s[j].toNat : Int)) ∨ ((97 : Int) ≤ (s[j].toNat : Int) ∧ ¬ (s[j].toNat : Int) ≤ 122)) := by
            by_cases hlt : j < s.size
            · right
              refine ⟨by omega, hlt, ?_⟩
              have hba := byteAt_in hlt
              have hnl : ¬ isLow (byteAt s j) = true := fun h => hgo ⟨hlt, h⟩
              unfold isLow at hnl
              rw [hba] at hnl
              simp only [decide_eq_true_eq] at hnl
              omega
            · left; omega
          clear hgo
          rcases hexit with h1 | ⟨h1, hlt, h2 | ⟨h2, h3⟩⟩
          all_goals
            go_wp2_with fail
            go_loopg [6] s.size (fun g i wx => ∃ m : Nat, m ≤ s.size ∧ g = s.size - m ∧ i = .int .i64 (m : Int) ∧ Below w.heap.size w wx ∧ wx.heap[w.heap.size]? = some (.cells #[.string ⟨#[]⟩, .bool false, .bool false] 45) ∧ wx.heap[w.heap.size + 1]? = some (.cells #[.string (s.extract 3 j), .bool false, .bool (anyBack s m)] 45))
            case atStart => exact ⟨0, by omega, rfl, rfl, A.out.2.2.1, A.out.2.2.2.1, A.out.2.2.2.2⟩
            case round =>
              obtain ⟨m, hm, hg, rfl, hb, hn0, hn1⟩ := hrel
              have B : Aside (gk = s.size - m ∧ Below w.heap.size w wr ∧ wr.heap[w.heap.size]? = some (.cells #[.string ⟨#[]⟩, .bool false, .bool false] 45) ∧ wr.heap[w.heap.size + 1]? = some (.cells #[.string (s.extract 3 j), .bool false, .bool (anyBack s m)] 45)) := ⟨hg, hb, hn0, hn1⟩
              clear c0 c1 c2 f0 f1 f2 hsn
              obtain ⟨⟨c0, c1, c2⟩, f0, f1, f2⟩ := box3 hn1
              obtain ⟨⟨r0, r1, r2⟩, q0, q1, q2⟩ := box3 hn0
              have hsn := lt_of_block hn1
              have hsn0 := lt_of_block hn0
              clear hg hb hn0 hn1
              by_cases hmt : m < s.size
              · have hmc : (m : Int) < s.size := by omega
                have HSU : Hid (anyBack s (m + 1) = (anyBack s m || ((s[m].toNat : Int) == 92))) := hide (by rw [anyBack_succ s m hmt, byteAt_in hmt]; congr 1)
                cases hab : anyBack s m with
                | true =>
                  rw [hab] at c2
                  have HAB := hide hab
                  clear hab
                  go_wp2_with fail
                  go_roundg (s.size - (m + 1))
                  case measure => have := B.out.1; omega
                  case rel =>
                    refine ⟨m + 1, by omega, rfl, by go_num, B.out.2.1.setCell (p := ⟨w.heap.size + 1, 2, none⟩) (by simp only; omega) _, ?_, ?_⟩
                    · rw [Below.heap_setCell _ _ _ _ (by simp only; omega)]; exact B.out.2.2.1
                    · rw [heap_set_same B.out.2.2.2, unhide HSU, unhide HAB]; rfl
                | false =>
                  rw [hab] at c2
                  have HAB := hide hab
                  clear hab
                  go_wp2_with fail
                  go_roundg (s.size - (m + 1))
                  case measure => have := B.out.1; omega
                  case rel =>
                    refine ⟨m + 1, by omega, rfl, by go_num, B.out.2.1.setCell (p := ⟨w.heap.size + 1, 2, none⟩) (by simp only; omega) _, ?_, ?_⟩
                    · rw [Below.heap_setCell _ _ _ _ (by simp only; omega)]; exact B.out.2.2.1
                    · rw [heap_set_same B.out.2.2.2, unhide HSU, unhide HAB]; rfl
              · have hme : m = s.size := by omega
                have hmc : ¬ (m : Int) < s.size := by omega
                have HME := hide hme
                clear hme
                go_wp2_with fail
                obtain ⟨⟨d0, d1, d2⟩, _⟩ := box3 (box3_set (x := .string (s.extract 3 j)) (y := .bool false) (z := .bool (anyBack s m)) B.out.2.2.1)
                refine bodyPost_ret (v := .agg #[.string (s.extract 3 j), .bool false, .bool (anyBack s m)]) (by simp [results, Tryz.results41, go_sem, d0, d1, d2]) rfl ⟨?_, below_set3 _ _ _ B.out.2.1 (Nat.le_refl _)⟩
                unfold itemK
                rw [unhide HAT, unhide HEND, unhide HTAB, unhide HME]
end Go.Proofs.YthnggjaecngbiaaGreatDoor
