/- A region that draws its order: an operation that yields its value in every world of a kind, and for which every store of the region waits, may be taken first. Own law, after the shape of the library's: what is held need not hold behind the stores. -/
import Derived.OrdersHeld
import Derived.RegionTactic
namespace Go.Proofs.YtcajofdmadpmoaaDoor
open Go

section
variable {P : Program} {ops : Array Oper} {Q : Exit → Act → World → Prop} {md : Region.Mode} {C : World → Prop} {st : List Nat}

/-- what has come up waited for what had come up -/
def Cl (md : Region.Mode) (ops : Array Oper) (L : Array Bool) : Prop := ∀ (k : Nat) (o : Oper), ops[k]? = some o → L.getD k false = true → ∀ e ∈ o.after, Region.binds md e = true → L.getD e.on false = true
theorem getD_mono {L : Array Bool} {j x : Nat} (h : L.getD x false = true) : (L.setIfInBounds j true).getD x false = true := by
  by_cases e : j = x
  · subst e
    rcases Nat.lt_or_ge j L.size with g | g
    · simp [g]
    · simp [Array.getElem?_eq_none g] at h
  · simp only [Array.getD_eq_getD_getElem?] at *
    rw [Array.getElem?_setIfInBounds_ne e]; exact h

theorem Cl.set {L : Array Bool} (h : Cl md ops L) {j : Nat} (hj : ∀ o, ops[j]? = some o → ∀ e ∈ o.after, Region.binds md e = true → L.getD e.on false = true) : Cl md ops (L.setIfInBounds j true) := fun k o hk hl e he hb => by
  by_cases ejk : j = k
  · subst ejk; exact getD_mono (hj o hk e he hb)
  · refine getD_mono (h k o hk ?_ e he hb)
    simp only [Array.getD_eq_getD_getElem?] at *
    rw [Array.getElem?_setIfInBounds_ne ejk] at hl; exact hl

end
end Go.Proofs.YtcajofdmadpmoaaDoor
