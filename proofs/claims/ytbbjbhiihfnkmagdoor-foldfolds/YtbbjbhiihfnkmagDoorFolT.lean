/- What package fold's Fold must answer; attestlaw5.plain, lives. -/
import Derived.Test.YtbbjbhiihfnkmagDoorFolQ
import Derived.Test.YtbbjbhiihfnkmagDoorDoms
namespace Go.Proofs.YtbbjbhiihfnkmagDoor
open Go.RowKit

theorem DO.cir {w : World} {p b d n : Nat} {r s : Int} (D : DO w p b d n r s) : Fol.Cir p n r s := ⟨D.pr, D.h3, D.ord, D.hsd⟩
/-- what Fold must answer -/
def FldAs : Prop := ∀ (p b d n cap : Nat) (a : Option Addr) (r s c : Int) (word : List Int) (W : World), DO W p b d n r s → word.length ≤ 17592186043904 → Fits word → Lst W.heap.size W a cap word → -9223372036854775808 ≤ c → c ≤ 9223372036854775807 →
  Calls Tryd.prog 32 #[.pointer (some ⟨d, 0, none⟩), .slice a word.length cap, .int .i64 c] W fun e w' => Below W.heap.size W w' ∧
    ((word.length = n ∧ 1 < n) → ∃ a' c', e = .returned (.tuple #[.slice a' (n / 2) c', .nilIface]) ∧ Lst w'.heap.size w' a' c' (Fol.foldz p (n / 2) r s word c)) ∧
    (¬ (word.length = n ∧ 1 < n) → ∃ a' c', e = .returned (.tuple #[.slice a' 0 c', .iface 70 (.int .i64 2)]))

/-- a domain and half of it -/
structure Dh (w : World) (q b d h m : Nat) (r s : Int) : Prop where
  dom : DO w q b d (2 * m) r s
  half : DO w q b h m (r * r % (q : Int)) (s * s % (q : Int))
theorem Dh.step {w w' : World} {q b d h m : Nat} {r s : Int} (D : Dh w q b d h m r s) (e : Below w.heap.size w w') : Dh w' q b d h m r s := ⟨D.dom.step e, D.half.step e⟩
def Good5 (p n s : Int) : Prop := ∃ q k : Nat, p = (q : Int) ∧ n = ((2 ^ (k + 1) : Nat) : Int) ∧ GoodAt q (k + 1) s

end Go.Proofs.YtbbjbhiihfnkmagDoor
