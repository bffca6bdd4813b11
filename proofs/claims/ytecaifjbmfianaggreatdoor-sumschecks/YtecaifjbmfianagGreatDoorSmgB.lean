/- Package sums: total, allFixed, round. -/
import Derived.Test.YtecaifjbmfianagGreatDoorSmgA
import Derived.Test.YtecaifjbmfianagGreatDoorSpgs
namespace Go.Proofs.YtecaifjbmfianagGreatDoor
open Go.RowKit

/-- rows of rows that lie in blocks of a kind -/
structure TabP (P : Nat → Prop) (w : World) (a : Option Addr) (cap : Nat) (rows : List (List Int)) : Prop where
  row : ∀ k, k < rows.length → ∃ b o ak ck, a = some ⟨b, o, none⟩ ∧ P b ∧ w.cell? ⟨b, o + k, none⟩ = some (.slice ak (rat rows k).length ck) ∧ RowP P w ak (rat rows k) ∧ (rat rows k).length ≤ ck ∧ (ak = none → ck = 0)
  room : rows.length ≤ cap
  nil : a = none → cap = 0
theorem TabP.lst {P : Nat → Prop} {w : World} {a : Option Addr} {cap n0 : Nat} {rows : List (List Int)} (h : TabP P w a cap rows) (hP : ∀ b, P b → b < n0) : LstR n0 w a cap rows :=
  ⟨fun k hk => by
    obtain ⟨b, o, ak, ck, h1, h2, h3, h4, h5, h6⟩ := h.row k hk
    exact ⟨b, o, ak, ck, h1, hP b h2, h3, ⟨fun j hj => by
      obtain ⟨b', o', g1, g2, g3⟩ := h4 j hj
      exact ⟨b', o', g1, hP b' g2, g3⟩, h5, h6⟩⟩, h.room, h.nil⟩
theorem TabP.of_lst {w : World} {a : Option Addr} {cap n0 : Nat} {rows : List (List Int)} (h : LstR n0 w a cap rows) : TabP (· < n0) w a cap rows :=
  ⟨fun k hk => by
    obtain ⟨b, o, ak, ck, h1, h2, h3, h4⟩ := h.row k hk
    exact ⟨b, o, ak, ck, h1, h2, h3, fun j hj => by
      obtain ⟨b', o', g1, g2, g3⟩ := h4.row j hj
      exact ⟨b', o', g1, g2, g3⟩, h4.room, h4.nil⟩, h.room, h.nil⟩
theorem TabP.keep {P : Nat → Prop} {w w' : World} {a : Option Addr} {cap : Nat} {rows : List (List Int)} (h : TabP P w a cap rows) (e : ∀ b, P b → w'.heap[b]? = w.heap[b]?) : TabP P w' a cap rows :=
  ⟨fun k hk => by
    obtain ⟨b, o, ak, ck, h1, h2, h3, h4, h5, h6⟩ := h.row k hk
    exact ⟨b, o, ak, ck, h1, h2, (World.cell?_of_block (w := w) (a := ⟨b, o + k, none⟩) (e b h2)).trans h3, fun j hj => by
      obtain ⟨b', o', g1, g2, g3⟩ := h4 j hj
      exact ⟨b', o', g1, g2, (World.cell?_of_block (w := w) (a := ⟨b', o' + j, none⟩) (e b' g2)).trans g3⟩, h5, h6⟩, h.room, h.nil⟩
theorem TabP.imp {P Q : Nat → Prop} {w : World} {a : Option Addr} {cap : Nat} {rows : List (List Int)} (h : TabP P w a cap rows) (e : ∀ b, P b → Q b) : TabP Q w a cap rows :=
  ⟨fun k hk => by
    obtain ⟨b, o, ak, ck, h1, h2, h3, h4, h5, h6⟩ := h.row k hk
    exact ⟨b, o, ak, ck, h1, e b h2, h3, fun j hj => by
      obtain ⟨b', o', g1, g2, g3⟩ := h4 j hj
      exact ⟨b', o', g1, e b' g2, g3⟩, h5, h6⟩, h.room, h.nil⟩

theorem ArrI.rowE {w : World} {g n n0 : Nat} {t : TypeId} {f : Nat → Int} (h : ArrI w g t n f) {zs : List Int} (hn : zs.length = n) (hz : ∀ j, j < n → zat zs j = f j) (hg : g < n0) : RowB n0 w (some ⟨g, 0, none⟩) zs := fun k hk => ⟨g, 0, rfl, hg, by rw [Nat.zero_add, h.cell (by omega), hz k (by omega)]⟩
theorem ArrI.lst {w : World} {g n n0 : Nat} {t : TypeId} {f : Nat → Int} (h : ArrI w g t n f) {zs : List Int} (hn : zs.length = n) (hz : ∀ j, j < n → zat zs j = f j) (hg : g < n0) : Lst n0 w (some ⟨g, 0, none⟩) n zs := ⟨h.rowE hn hz hg, by omega, fun e => by cases e⟩

/-- tables with their first variable let be r, as far as they are made -/
def FixV (w : World) (p n0 k : Nat) (rows : List (List Int)) (r : Int) (V : Nat → Value) : Prop := ∀ j, j < k → ∃ g, V j = .slice (some ⟨g, 0, none⟩) ((rat rows j).length / 2) ((rat rows j).length / 2) ∧ n0 < g ∧ g < w.heap.size ∧ ArrI w g 3 ((rat rows j).length / 2) (zat (fixl p (rat rows j) r))

/-- tables that are made of tables -/
theorem inR_fix {p b cap : Nat} {a a' : Option Addr} {rows : List (List Int)} {r : Int} {W W' : World} (hF : InF p b W) (hR : InR W a cap rows) {n c : Nat} (h : TabP (fun g => n ≤ g ∧ g < W'.heap.size) W' a' c (fixr p rows r)) : InR W' a' c (fixr p rows r) :=
  ⟨by rw [fixr_len]; exact hR.len, fun k hk => by
    rw [fixr_len] at hk
    rw [fixr_rat hk, fixl_len]
    have := hR.lens k hk
    omega, fixr_fits hF.h3 hF.hm rows r, h.lst (fun g hg => hg.2)⟩

end Go.Proofs.YtecaifjbmfianagGreatDoor
