/- attestref6.Do: any instruction. -/
import Derived.Test.YtoodjpkflcbfdaiDoorMacGAd
import Derived.Test.YtoodjpkflcbfdaiDoorMacGSu
import Derived.Test.YtoodjpkflcbfdaiDoorMacGMu
import Derived.Test.YtoodjpkflcbfdaiDoorMacGDi
import Derived.Test.YtoodjpkflcbfdaiDoorMacGSa
import Derived.Test.YtoodjpkflcbfdaiDoorMacHa
import Derived.Test.YtoodjpkflcbfdaiDoorMacHb
import Derived.Test.YtoodjpkflcbfdaiDoorMacHc
import Derived.Test.YtoodjpkflcbfdaiDoorMacHd
import Derived.Test.YtoodjpkflcbfdaiDoorMacHe
import Derived.Test.YtoodjpkflcbfdaiDoorMacHf
import Derived.Test.YtoodjpkflcbfdaiDoorMacHg
import Derived.Test.YtoodjpkflcbfdaiDoorMacHh
namespace Go.Proofs.YtoodjpkflcbfdaiDoor
open Go.RowKit

theorem rdo_any (N M base p : Nat) (s0 : RM) (op a b c : Int) (w : World) (h : DoP N M base p s0 w) (ha1 : -9223372036854775808 ≤ a) (ha2 : a ≤ 9223372036854775807) (hb1 : -9223372036854775808 ≤ b) (hb2 : b ≤ 9223372036854775807) (hc1 : -9223372036854775808 ≤ c) (hc2 : c ≤ 9223372036854775807) :
    Calls Tryd.prog 28 #[.pointer (some ⟨M, 0, none⟩), .agg #[.int .i64 op, .int .i64 a, .int .i64 b, .int .i64 c]] w (DoR N M base p s0 op a b c w) := by
  by_cases hop : 0 ≤ op ∧ op ≤ 13
  · have : op = 0 ∨ op = 1 ∨ op = 2 ∨ op = 3 ∨ op = 4 ∨ op = 5 ∨ op = 6 ∨ op = 7 ∨ op = 8 ∨ op = 9 ∨ op = 10 ∨ op = 11 ∨ op = 12 ∨ op = 13 := by omega
    rcases this with rfl | rfl | rfl | rfl | rfl | rfl | rfl | rfl | rfl | rfl | rfl | rfl | rfl | rfl
    · exact do_halt N M base p s0 a b c w h ha1 ha2 hb1 hb2 hc1 hc2
    · exact do_add N M base p s0 a b c w h ha1 ha2 hb1 hb2 hc1 hc2
    · exact do_sub N M base p s0 a b c w h ha1 ha2 hb1 hb2 hc1 hc2
    · exact do_mul N M base p s0 a b c w h ha1 ha2 hb1 hb2 hc1 hc2
    · exact do_div N M base p s0 a b c w h ha1 ha2 hb1 hb2 hc1 hc2
    · exact do_set N M base p s0 a b c w h ha1 ha2 hb1 hb2 hc1 hc2
    · exact do_same N M base p s0 a b c w h ha1 ha2 hb1 hb2 hc1 hc2
    · exact do_must N M base p s0 a b c w h ha1 ha2 hb1 hb2 hc1 hc2
    · exact do_jump N M base p s0 a b c w h ha1 ha2 hb1 hb2 hc1 hc2
    · by_cases hz : (s0.look ((s0.fp + a) % (p : Int))).2 = 0
      · exact do_zeroY N M base p s0 a b c w h ha1 ha2 hb1 hb2 hc1 hc2 (fun x fa e1 e2 => by rw [e1, e2]; exact hz)
      · exact do_zeroN N M base p s0 a b c w h ha1 ha2 hb1 hb2 hc1 hc2 (fun x fa e1 e2 => by rw [e1, e2]; exact hz)
    · exact do_call N M base p s0 a b c w h ha1 ha2 hb1 hb2 hc1 hc2
    · exact do_back N M base p s0 a b c w h ha1 ha2 hb1 hb2 hc1 hc2
    · exact do_take N M base p s0 a b c w h ha1 ha2 hb1 hb2 hc1 hc2
    · exact do_pass N M base p s0 a b c w h ha1 ha2 hb1 hb2 hc1 hc2
  · exact do_other N M base p s0 op hop a b c w h ha1 ha2 hb1 hb2 hc1 hc2

end Go.Proofs.YtoodjpkflcbfdaiDoor
