/- Package code: a domain as it lies still; mayBound, Encode. -/
import Derived.Test.YtmmlphdekeflfaaDoorDoms
import Derived.Test.YtmmlphdekeflfaaDoorDecG
namespace Go.Proofs.YtmmlphdekeflfaaDoor
open Go.RowKit

/-- a domain that was made, as it lies in a world -/
structure DO (w : World) (p b d n : Nat) (r s : Int) : Prop where
  pr : Num.Prime p
  h3 : 3 ≤ p
  hm : p ≤ 2147483647
  hp : w.cell? ⟨b, 0, none⟩ = some (.int .i64 p)
  da : DomAt w d b n r s
  hk : ∃ k, k ≤ 16 ∧ n = 2 ^ k
  hr0 : 0 ≤ r
  hr1 : r < p
  ord : Dom.Ord p r n
  hs0 : 0 ≤ s
  hs1 : s < p
  hsd : ¬ (p : Int) ∣ s

theorem DO.below {w w' : World} {p b d n n0 : Nat} {r s : Int} (h : DO w p b d n r s) (e : Below n0 w w') (hb : b < n0) (hd : d < n0) : DO w' p b d n r s :=
  ⟨h.pr, h.h3, h.hm, (e.cell (p := ⟨b, 0, none⟩) hb).trans h.hp, h.da.below e hd, h.hk, h.hr0, h.hr1, h.ord, h.hs0, h.hs1, h.hsd⟩
theorem DO.blt {w : World} {p b d n : Nat} {r s : Int} (h : DO w p b d n r s) : b < w.heap.size := heap_lt h.hp
theorem DO.dlt {w : World} {p b d n : Nat} {r s : Int} (h : DO w p b d n r s) : d < w.heap.size := h.da.lt
theorem DO.step {w w' : World} {p b d n : Nat} {r s : Int} (h : DO w p b d n r s) (e : Below w.heap.size w w') : DO w' p b d n r s := h.below e h.blt h.dlt
theorem DO.pos {w : World} {p b d n : Nat} {r s : Int} (h : DO w p b d n r s) : 0 < n ∧ n ≤ 65536 := by
  obtain ⟨k, h1, h2⟩ := h.hk
  have := two_pow_le h1
  have : 0 < 2 ^ k := Nat.pow_pos (by decide)
  omega
theorem DO.nnd {w : World} {p b d n : Nat} {r s : Int} (h : DO w p b d n r s) : ¬ (p : Int) ∣ (n : Int) := by
  obtain ⟨k, h1, h2⟩ := h.hk
  rw [h2]
  exact two_pow_nd h.pr h.h3 k

/-- the polynomial that has these values -/
def bk (p n : Nat) (r s : Int) (zs : List Int) : List Int := Pol.trim p (ls (coefs p zs n (invn p r) (invn p n) (invn p s)) n)
theorem bk_len (p n : Nat) (r s : Int) (zs : List Int) : (bk p n r s zs).length ≤ n := by
  have := Pol.trim_le p (ls (coefs p zs n (invn p r) (invn p n) (invn p s)) n); rw [ls_len] at this; exact this
theorem bk_can {p : Nat} (hp : 0 < p) (n : Nat) (r s : Int) (zs : List Int) : Pol.Can p (bk p n r s zs) := Pol.trim_can hp _
theorem coef_ok {w : World} {p b d n : Nat} {r s : Int} (D : DO w p b d n r s) (a : Option Addr) (cap : Nat) (zs : List Int) (hlen : zs.length = n) (hfit : Fits zs) (hl : Lst w.heap.size w a cap zs) :
    Calls Tryd.prog 16 #[.pointer (some ⟨d, 0, none⟩), .slice a n cap] w fun e w' =>
      ∃ (g c : Nat), e = .returned (.tuple #[.slice (some ⟨g, 0, none⟩) (bk p n r s zs).length c, .nilIface]) ∧ Lst w'.heap.size w' (some ⟨g, 0, none⟩) c (bk p n r s zs) ∧ Below w.heap.size w w' := by
  obtain ⟨k, h1, h2⟩ := D.hk
  exact coef_any p b d k n cap r s a zs w D.pr D.h3 D.hm D.hp D.da h1 h2 D.hr0 D.hr1 D.ord D.hs0 D.hs1 hlen hfit hl

/-! ## mayBound -/
theorem bound_yes {w : World} {d b n : Nat} {r s : Int} (k : Nat) (h : DomAt w d b n r s) (h1 : 1 ≤ k) (h2 : k ≤ n) (_hn : n ≤ 65536) :
    Calls Tryd.prog 15 #[.pointer (some ⟨d, 0, none⟩), .int .i64 k] w fun e w' => e = .returned (.bool true) ∧ w' = w := by
  have HS := hid (size_any d b n r s w h)
  have e1 : (1 : Int) ≤ (k : Int) := by omega
  have e2 : (k : Int) ≤ (n : Int) := by omega
  clear h
  go_enter Tryd.func15, Tryd.ntmps15
  go_wp2_with fail
  refine HS.out.mono ?_
  rintro e w1 ⟨rfl, rfl⟩
  go_wp2_with fail
  go_ret
  exact ⟨rfl, rfl⟩

end Go.Proofs.YtmmlphdekeflfaaDoor
