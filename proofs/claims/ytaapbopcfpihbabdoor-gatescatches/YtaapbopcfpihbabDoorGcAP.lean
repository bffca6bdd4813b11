/- Package gates: Part of anything; Values of a circuit of one gate. attestref12: two, Powers, Dot, Sum, Unit, Units. -/
import Derived.Test.YtaapbopcfpihbabDoorGtS
import Derived.Test.YtaapbopcfpihbabDoorGcAK
import Derived.Test.YtaapbopcfpihbabDoorGcAH
import Derived.Test.YtaapbopcfpihbabDoorSpgs
import Derived.Test.YtaapbopcfpihbabDoorSumS
import Derived.StillTailTactics
namespace Go.Proofs.YtaapbopcfpihbabDoor
open Go.RowKit

/-- Part: what is wrong -/
noncomputable def pte (wide : Int) (lys : List (List GatZ)) (ni : Nat) (layer : Int) (nz nx : Nat) : Int := if vle wide lys ni = 0 then (if 0 ≤ layer ∧ layer < (lys.length : Int) then (if nz = bnn wide lys (layer.toNat + 1) ∧ nx ≤ 2 * bnn wide lys layer.toNat then 0 else 2) else 3) else vle wide lys ni
/-- Part: what it gives -/
noncomputable def ptv (p : Nat) (wide : Int) (lys : List (List GatZ)) (inputs : List Int) (layer : Int) (z xs : List Int) : Int := if pte wide lys inputs.length layer z.length xs.length = 0 then ptz p (lyt lys layer.toNat) (gvs p lys inputs layer.toNat) (bnn wide lys layer.toNat) z xs else 0
theorem pte_zero {wide : Int} {lys : List (List GatZ)} {ni nz nx : Nat} {layer : Int} (h : pte wide lys ni layer nz nx = 0) : vle wide lys ni = 0 ∧ (0 ≤ layer ∧ layer < (lys.length : Int)) ∧ nz = bnn wide lys (layer.toNat + 1) ∧ nx ≤ 2 * bnn wide lys layer.toNat := by
  unfold pte at h
  by_cases h1 : vle wide lys ni = 0
  · rw [if_pos h1] at h
    by_cases h2 : 0 ≤ layer ∧ layer < (lys.length : Int)
    · rw [if_pos h2] at h
      by_cases h3 : nz = bnn wide lys (layer.toNat + 1) ∧ nx ≤ 2 * bnn wide lys layer.toNat
      · exact ⟨h1, h2, h3⟩
      · rw [if_neg h3] at h; omega
    · rw [if_neg h2] at h; omega
  · rw [if_neg h1] at h; exact absurd h h1
theorem part_all (p b cL ci cz cx : Nat) (wide layer : Int) (aL ai az ax : Option Addr) (lys : List (List GatZ)) (inputs z xs : List Int) (w : World) (hIT : InT p b w) (hB : CirB lys) (hl : LstGG w.heap.size w aL cL lys) (hin : Lst w.heap.size w ai ci inputs) (hfi : Fits inputs) (fz : Fits z) (fx : Fits xs) (rz : RowB w.heap.size w az z) (lx : Lst w.heap.size w ax cx xs) :
    Calls Tryd.prog 5 #[.pointer (some ⟨b, 0, none⟩), .agg #[.int .i64 wide, .slice aL lys.length cL], .int .i64 layer, .slice ai inputs.length ci, .slice az z.length cz, .slice ax xs.length cx] w fun e w' => e = .returned (.tuple #[.int .i64 (ptv p wide lys inputs layer z xs), errz (pte wide lys inputs.length layer z.length xs.length)]) ∧ Below w.heap.size w w' := by
  by_cases h1 : vle wide lys inputs.length = 0
  · by_cases h2 : 0 ≤ layer ∧ layer < (lys.length : Int)
    · obtain ⟨i, rfl⟩ := Int.eq_ofNat_of_zero_le h2.1
      have hi : i < lys.length := by have := h2.2; omega
      by_cases h3 : z.length = bnn wide lys (i + 1) ∧ xs.length ≤ 2 * bnn wide lys i
      · have hp : pte wide lys inputs.length (i : Int) z.length xs.length = 0 := by unfold pte; rw [if_pos h1, if_pos h2, Int.toNat_natCast, if_pos h3]
        have hv : ptv p wide lys inputs (i : Int) z xs = ptz p (lyt lys i) (gvs p lys inputs i) (bnn wide lys i) z xs := by unfold ptv; rw [if_pos hp, Int.toNat_natCast]
        rw [hp, hv]
        exact partY_any p b i cL ci cz cx wide aL ai az ax lys inputs z xs w hIT hB hl hin hfi h1 hi h3.1 h3.2 fz fx rz lx
      · have hp : pte wide lys inputs.length (i : Int) z.length xs.length = 2 := by unfold pte; rw [if_pos h1, if_pos h2, Int.toNat_natCast, if_neg h3]
        have hv : ptv p wide lys inputs (i : Int) z xs = 0 := by unfold ptv; rw [hp]; rfl
        rw [hp, hv]
        exact partS_any p b i z.length xs.length cL ci cz cx wide aL ai az ax lys inputs w hIT hB hl hin hfi h1 hi h3
    · have hp : pte wide lys inputs.length layer z.length xs.length = 3 := by unfold pte; rw [if_pos h1, if_neg h2]
      have hv : ptv p wide lys inputs layer z xs = 0 := by unfold ptv; rw [hp]; rfl
      rw [hp, hv]
      exact partR_any p b z.length xs.length cL ci cz cx wide layer aL ai az ax lys inputs w hIT hB hl hin hfi h1 h2
  · have hp : pte wide lys inputs.length layer z.length xs.length = vle wide lys inputs.length := by unfold pte; rw [if_neg h1]
    have hv : ptv p wide lys inputs layer z xs = 0 := by unfold ptv; rw [hp, if_neg h1]
    rw [hp, hv]
    exact partF_any p b z.length xs.length cL ci cz cx wide layer aL ai az ax lys inputs w hIT hB hl hin hfi h1

/-- a circuit of one gate -/
def oneL : List (List GatZ) := [[⟨1, 0, 0⟩]]
theorem one_flt : flt 0 oneL = 0 := by
  have hS : SzC 0 oneL := ⟨⟨by decide, by decide⟩, ⟨by decide, by decide⟩, fun k hk => by
    obtain rfl : k = 0 := by simp [oneL] at hk; exact hk
    decide⟩
  have hG : GtC 0 oneL := fun i hi k hk => by
    obtain rfl : i = 0 := by simp [oneL] at hi; exact hi
    obtain rfl : k = 0 := by simp [oneL, lyt] at hk; exact hk
    decide
  unfold flt
  rw [if_pos hS, if_pos hG]
theorem one_vle : vle 0 oneL 1 = 0 := by unfold vle; rw [if_pos one_flt]; rfl
theorem one_gvs {p : Nat} (h3 : 3 ≤ p) : gvs p oneL [1] 1 = [1] := by
  have e : (1 : Int) % (p : Int) = 1 := Int.emod_eq_of_lt (by omega) (by omega)
  show ls (fun i => jnz p (gat [⟨1, 0, 0⟩] i).kind (zat (ls (fun i => zat [1] i % (p : Int)) 1) (gat [⟨1, 0, 0⟩] i).a.toNat) (zat (ls (fun i => zat [1] i % (p : Int)) 1) (gat [⟨1, 0, 0⟩] i).b.toNat)) 1 = [1]
  simp [ls, gat, zat, jnz, e]

/-- the world in which a circuit of one gate, and its one input, are laid -/
def oneW (W : World) : World := ((W.alloc (.cells #[.int .i64 1, .int .i64 0, .int .i64 0] 34)).alloc (.cells #[.slice (some ⟨W.heap.size, 0, none⟩) 1 1] 35)).alloc (.cells #[.int .i64 1] 3)
theorem oneW_below (W : World) : Below W.heap.size W (oneW W) := (((Below.refl _ _).alloc (Nat.le_refl _) _).alloc (by simp) _).alloc (by simp; omega) _
theorem oneW_lst (W : World) : LstGG (oneW W).heap.size (oneW W) (some ⟨W.heap.size + 1, 0, none⟩) 1 oneL ∧ Lst (oneW W).heap.size (oneW W) (some ⟨W.heap.size + 2, 0, none⟩) 1 [1] := by
  obtain ⟨W1, h1⟩ : ∃ W1, W1 = W.alloc (.cells #[.int .i64 1, .int .i64 0, .int .i64 0] 34) := ⟨_, rfl⟩
  obtain ⟨W2, h2⟩ : ∃ W2, W2 = W1.alloc (.cells #[.slice (some ⟨W.heap.size, 0, none⟩) 1 1] 35) := ⟨_, rfl⟩
  obtain ⟨W3, h3⟩ : ∃ W3, W3 = W2.alloc (.cells #[.int .i64 1] 3) := ⟨_, rfl⟩
  obtain ⟨b1, s1, z1⟩ := own_blk h1
  obtain ⟨b2, s2, z2⟩ := own_blk h2
  obtain ⟨b3, s3, z3⟩ := own_blk h3
  have e : oneW W = W3 := by rw [h3, h2, h1]; rfl
  rw [e]
  have t1 := ((b3.block W.heap.size (by omega)).trans (b2.block W.heap.size (by omega))).trans s1
  have t2 := (b3.block W1.heap.size (by omega)).trans s2
  rw [z1] at t2
  rw [z2, z1] at s3
  refine ⟨⟨fun k hk => ?_, by simp [oneL], fun h => by cases h⟩, ⟨fun k hk => ?_, by simp, fun h => by cases h⟩⟩
  · obtain rfl : k = 0 := by simp [oneL] at hk; exact hk
    refine ⟨W.heap.size + 1, 0, some ⟨W.heap.size, 0, none⟩, 1, rfl, by omega, by simp [World.cell?, t2, oneL, lyt], fun j hj => ?_, by simp [oneL, lyt], fun h => by cases h⟩
    obtain rfl : j = 0 := by simp [oneL, lyt] at hj; exact hj
    exact ⟨W.heap.size, 0, rfl, by omega, by simp [World.cell?, t1, oneL, lyt, gat], by simp [World.cell?, t1, oneL, lyt, gat], by simp [World.cell?, t1, oneL, lyt, gat]⟩
  · obtain rfl : k = 0 := by simp at hk; exact hk
    exact ⟨W.heap.size + 2, 0, rfl, by omega, by simp [World.cell?, s3, zat]⟩
theorem one_cir : CirB oneL := by
  refine ⟨by simp [oneL], fun k hk => ?_, fun k hk => ?_⟩
  · obtain rfl : k = 0 := by simp [oneL] at hk; exact hk
    simp [oneL, lyt]
  · obtain rfl : k = 0 := by simp [oneL] at hk; exact hk
    intro j hj
    obtain rfl : j = 0 := by simp [oneL, lyt] at hj; exact hj
    simp [oneL, lyt, gat, i64B]
end Go.Proofs.YtaapbopcfpihbabDoor

namespace Go.Proofs.YtaapbopcfpihbabDoor
open Go.RowKit

end Go.Proofs.YtaapbopcfpihbabDoor
