/- Package machine: work, set, take, pass. Package machine: work, zero, halt, back, jump, others. Package machine: work, quotients. Package machine: work, calls. Package machine: cells, work and move for any instruction. -/
import Derived.Test.YtaibngnabhmabajDoorBbAR
import Derived.Test.YtaibngnabhmabajDoorSpgs
import Derived.Test.YtaibngnabhmabajDoorBbAS
namespace Go.Proofs.YtaibngnabhmabajDoor
open Go.RowKit Go.Maps

end Go.Proofs.YtaibngnabhmabajDoor

namespace Go.Proofs.YtaibngnabhmabajDoor
open Go.RowKit Go.Maps

end Go.Proofs.YtaibngnabhmabajDoor

namespace Go.Proofs.YtaibngnabhmabajDoor
open Go.RowKit Go.Maps

end Go.Proofs.YtaibngnabhmabajDoor

namespace Go.Proofs.YtaibngnabhmabajDoor
open Go.RowKit Go.Maps

end Go.Proofs.YtaibngnabhmabajDoor

namespace Go.Proofs.YtaibngnabhmabajDoor
open Go.RowKit Go.Maps

theorem pcells_any (p b : Nat) (op ia ib ic fp ap : Int) (w : World) (h3 : 3 ≤ p) (h4 : p ≤ 2147483647) (hp : w.cell? ⟨b, 0, none⟩ = some (.int .i64 p)) (hb : I64 ia ∧ I64 ib ∧ I64 ic ∧ I64 fp ∧ I64 ap) :
    Calls Tryd.prog 73 #[.pointer (some ⟨b, 0, none⟩), .agg #[.int .i64 op, .int .i64 ia, .int .i64 ib, .int .i64 ic], .int .i64 fp, .int .i64 ap] w (CeR p op ia ib ic fp ap w) := by
  by_cases h0 : op = 0; · subst h0; exact pcells_0 p b ia ib ic fp ap w h3 h4 hp hb
  by_cases h1 : op = 1; · subst h1; exact pcells_1 p b ia ib ic fp ap w h3 h4 hp hb
  by_cases h2 : op = 2; · subst h2; exact pcells_2 p b ia ib ic fp ap w h3 h4 hp hb
  by_cases h3' : op = 3; · subst h3'; exact pcells_3 p b ia ib ic fp ap w h3 h4 hp hb
  by_cases h4' : op = 4; · subst h4'; exact pcells_4 p b ia ib ic fp ap w h3 h4 hp hb
  by_cases h5 : op = 5; · subst h5; exact pcells_5 p b ia ib ic fp ap w h3 h4 hp hb
  by_cases h6 : op = 6; · subst h6; exact pcells_6 p b ia ib ic fp ap w h3 h4 hp hb
  by_cases h7 : op = 7; · subst h7; exact pcells_7 p b ia ib ic fp ap w h3 h4 hp hb
  by_cases h8 : op = 8; · subst h8; exact pcells_8 p b ia ib ic fp ap w hp
  by_cases h9 : op = 9; · subst h9; exact pcells_9 p b ia ib ic fp ap w h3 h4 hp hb
  by_cases h10 : op = 10; · subst h10; exact pcells_10 p b ia ib ic fp ap w h3 h4 hp hb
  by_cases h11 : op = 11; · subst h11; exact pcells_11 p b ia ib ic fp ap w h3 h4 hp hb
  by_cases h12 : op = 12; · subst h12; exact pcells_12 p b ia ib ic fp ap w h3 h4 hp hb
  by_cases h13 : op = 13; · subst h13; exact pcells_13 p b ia ib ic fp ap w h3 h4 hp hb
  exact pcells_x p b op ia ib ic fp ap w hp ⟨h0, h1, h2, h3', h4', h5, h6, h7, h9, h10, h11, h12, h13⟩

end Go.Proofs.YtaibngnabhmabajDoor
