/- Openings in memory; attestref5.path. -/
import Derived.Test.YtcajofdmadpmoaaDoorFolB
import Derived.Test.YtcajofdmadpmoaaDoorTreI
namespace Go.Proofs.YtcajofdmadpmoaaDoor
open Go.RowKit

/-- an Opening -/
structure OnZ where
  ps : List Int
  rows : List (List Int)
  nodes : List (List Int)
def onat (s : List OnZ) (k : Nat) : OnZ := s.getD k ⟨[], [], []⟩
/-- Openings in memory -/
structure LstF (n0 : Nat) (w : World) (a : Option Addr) (cap : Nat) (s : List OnZ) : Prop where
  row : ∀ k, k < s.length → ∃ b o ap cp ar cr an' cn, a = some ⟨b, o, none⟩ ∧ b < n0 ∧ w.cell? ⟨b, o + k * 3, none⟩ = some (.slice ap (onat s k).ps.length cp) ∧ w.cell? ⟨b, o + k * 3 + 1, none⟩ = some (.slice ar (onat s k).rows.length cr) ∧ w.cell? ⟨b, o + k * 3 + 2, none⟩ = some (.slice an' (onat s k).nodes.length cn) ∧ Lst n0 w ap cp (onat s k).ps ∧ LstR n0 w ar cr (onat s k).rows ∧ LstR n0 w an' cn (onat s k).nodes
  room : s.length ≤ cap
  nil : a = none → cap = 0
theorem LstF.below {n0 : Nat} {A B : World} {a : Option Addr} {cap : Nat} {s : List OnZ} (r : LstF n0 A a cap s) (h : Below n0 A B) : LstF n0 B a cap s :=
  ⟨fun k hk => by
    obtain ⟨b, o, ap, cp, ar, cr, an', cn, h1, h2, h3, h4, h5, h6, h7, h8⟩ := r.row k hk
    exact ⟨b, o, ap, cp, ar, cr, an', cn, h1, h2, (h.cell (p := ⟨b, o + k * 3, none⟩) h2).trans h3, (h.cell (p := ⟨b, o + k * 3 + 1, none⟩) h2).trans h4, (h.cell (p := ⟨b, o + k * 3 + 2, none⟩) h2).trans h5, h6.below h, h7.below h, h8.below h⟩, r.room, r.nil⟩
theorem LstF.mono {n0 n1 : Nat} {A : World} {a : Option Addr} {cap : Nat} {s : List OnZ} (r : LstF n0 A a cap s) (h : n0 ≤ n1) : LstF n1 A a cap s :=
  ⟨fun k hk => by
    obtain ⟨b, o, ap, cp, ar, cr, an', cn, h1, h2, h3, h4, h5, h6, h7, h8⟩ := r.row k hk
    exact ⟨b, o, ap, cp, ar, cr, an', cn, h1, by omega, h3, h4, h5, h6.mono h, h7.mono h, h8.mono h⟩, r.room, r.nil⟩

theorem thr0 {W : World} {g : Nat} {a b c : Value} {t : TypeId} (h : W.heap[g]? = some (.cells #[a, b, c] t (0, 0))) : W.cell? ⟨g, 0, none⟩ = some a := by simp [World.cell?, h]
theorem thr1 {W : World} {g : Nat} {a b c : Value} {t : TypeId} (h : W.heap[g]? = some (.cells #[a, b, c] t (0, 0))) : W.cell? ⟨g, 1, none⟩ = some b := by simp [World.cell?, h]
theorem thr2 {W : World} {g : Nat} {a b c : Value} {t : TypeId} (h : W.heap[g]? = some (.cells #[a, b, c] t (0, 0))) : W.cell? ⟨g, 2, none⟩ = some c := by simp [World.cell?, h]
/-- what an Opening has to be for a place -/
structure OnOk (o : OnZ) (pl : Nat) : Prop where
  len : o.rows.length = o.ps.length
  plen : o.ps.length ≤ 281474976710656
  two : ∀ k, k < o.rows.length → (rat o.rows k).length = 2
  fit : ∀ k, k < o.rows.length → Fits (rat o.rows k)
  is : ∃ j, j < o.ps.length ∧ zat o.ps j = (pl : Int)

end Go.Proofs.YtcajofdmadpmoaaDoor
