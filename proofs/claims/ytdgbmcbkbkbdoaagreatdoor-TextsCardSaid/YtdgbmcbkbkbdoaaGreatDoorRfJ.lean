import Derived.Test.YtdgbmcbkbkbdoaaGreatDoorRfIU
import Derived.Test.YtdgbmcbkbkbdoaaGreatDoorRfIF
import Derived.Test.YtdgbmcbkbkbdoaaGreatDoorRfIS
import Derived.Test.YtdgbmcbkbkbdoaaGreatDoorRfIN
import Derived.Test.YtdgbmcbkbkbdoaaGreatDoorRfIP
namespace Go.Proofs.YtdgbmcbkbkbdoaaGreatDoor
open Go.RowKit

theorem rtable_any (b : Nat) (s : ByteArray) (k : Nat) (far : Bool) (w : World) (hr : RR b s k false far w) (hs : s.size ≤ 1000) (hk : k ≤ s.size) (hb : nextP s k = k) :
    Calls Tryz.prog 98 #[.pointer (some ⟨b, 0, none⟩)] w fun e w' => (∃ p, tableR s k = .inl p ∧ (∃ nm mk po dr co cn cc ro rn rc, e = .returned (.agg #[.string nm, .int .i64 mk, .int .u8 po, .bool dr, .slice co cn cc, .slice ro rn rc])) ∧ Mv b w w' ∧ ∃ far', RR b s p true far' w') ∨ (∃ it q, tableR s k = .inr (it, q) ∧ ∃ co cn cc ro rn rc vs, e = .returned (.agg (ricells it (.slice co cn cc) (.slice ro rn rc))) ∧ Mv b w w' ∧ RR b s (nextP s q) false (far || farItem it) w' ∧ RItemAt w.heap.size w' ⟨it, .slice co cn cc, .slice ro rn rc, vs⟩) := by
  cases hn : nameR s k with
  | inl p => exact rtable_no b s k far w hr hs hk hb hn
  | inr xq =>
    obtain ⟨x, q⟩ := xq
    cases hpol : isPol (byteAt s (nextP s q)) with
    | false => exact rtable_pol b s k far w hr hs hk hb hn hpol
    | true =>
      rcases isPol_cases hpol with hc | hc | hc | hc | hc
      · exact rtable_U b s k far w hr hs hk hb hn hc
      · exact rtable_F b s k far w hr hs hk hb hn hc
      · exact rtable_S b s k far w hr hs hk hb hn hc
      · exact rtable_N b s k far w hr hs hk hb hn hc
      · exact rtable_P b s k far w hr hs hk hb hn hc
end Go.Proofs.YtdgbmcbkbkbdoaaGreatDoor
