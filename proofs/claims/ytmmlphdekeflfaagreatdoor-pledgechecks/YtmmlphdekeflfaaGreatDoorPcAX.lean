/- Plain facts on folded words: low degrees, distances. What package fold's Fold must answer; attestlaw5.plain, lives. PledgeBinds, plainly: who says two things of one root has shown two columns that are not the same. PledgeKeeps, plainly: rows that are no codewords are seen in all mixtures but a few. Package code: Is, Distance; the reference's Distance. The law DomainValues answers true: what any polynomial is at all points of any domain. -/
import Derived.Test.YtmmlphdekeflfaaGreatDoorPcAS
import Derived.Test.YtmmlphdekeflfaaGreatDoorDoms
import Derived.Test.YtmmlphdekeflfaaGreatDoorPgJ
import Derived.Test.YtmmlphdekeflfaaGreatDoorPcAW
import Derived.Test.YtmmlphdekeflfaaGreatDoorPcAR
import Derived.Test.YtmmlphdekeflfaaGreatDoorPcAF
import Derived.Test.YtmmlphdekeflfaaGreatDoorPls
namespace Go.Proofs.YtmmlphdekeflfaaGreatDoor.Fol
open Pol Dom

theorem Cir.unlike {p n : Nat} {r s : Int} (C : Cir p n r s) {i j : Nat} (hij : i < j) (hj : j < n) : ¬ (p : Int) ∣ pt p s r j - pt p s r i := fun h => by
  unfold pt at h
  have h1 : (p : Int) ∣ s * r ^ j - s * r ^ i := dvdt (dvdn (emod_dvd p (s * r ^ j))) (dvdt h (emod_dvd p (s * r ^ i)))
  rw [show s * r ^ j - s * r ^ i = s * (r ^ j - r ^ i) from by grind] at h1
  exact (prime_mul C.pr h1).elim C.sd (C.ord.unlike C.pr hij hj)
theorem cnt_split (P : Nat → Bool) (m n : Nat) : Cod.cnt P (m + n) = Cod.cnt P m + Cod.cnt (fun j => P (m + j)) n := by
  induction n with
  | zero => simp [Cod.cnt]
  | succ n ih => rw [← Nat.add_assoc, Cod.cnt, ih, Cod.cnt]; omega
/-- what is near stays near -/
theorem Cir.near {p m : Nat} {r s : Int} (C : Cir p (2 * m) r s) (f : Nat → Int) (M : Nat) (word y z W : List Int) {c d : Int} (hcd : ¬ (p : Int) ∣ d - c) (hlw : word.length = 2 * m) (hly : y.length = m) (hlz : z.length = m) (hlW : W.length = 2 * m)
    (hy : ∀ i, i < m → (p : Int) ∣ zat y i - ps (evod f c) (pt p (s * s % (p : Int)) (r * r % (p : Int)) i) M) (hz : ∀ i, i < m → (p : Int) ∣ zat z i - ps (evod f d) (pt p (s * s % (p : Int)) (r * r % (p : Int)) i) M)
    (hW : ∀ j, j < 2 * m → (p : Int) ∣ zat W j - ps f (pt p s r j) (2 * M)) : dist p word W ≤ 2 * (dist p (foldz p m r s word c) y + dist p (foldz p m r s word d) z) := by
  have hp0 : 0 < p := by have := C.h3; omega
  have hlf : ∀ c, (foldz p m r s word c).length = m := fun c => foldz_len _ _ _ _ _ _
  unfold dist
  rw [hlw, hlW, hlf, hlf, hly, hlz, Nat.max_self, Nat.max_self, show 2 * m = m + m from by omega, cnt_split]
  have key : ∀ i, i < m → dq p (foldz p m r s word c) y i = false → dq p (foldz p m r s word d) z i = false → dq p word W i = false ∧ dq p word W (m + i) = false := fun i hi h1 h2 => by
    unfold dq at h1 h2
    rw [hlf, hly] at h1
    rw [hlf, hlz] at h2
    simp only [hi, decide_true, Bool.true_and, Bool.not_eq_false', beq_iff_eq] at h1 h2
    have e1 := dvdt ((emod_eq_iff hp0).1 h1) (hy i hi)
    have e2 := dvdt ((emod_eq_iff hp0).1 h2) (hz i hi)
    obtain ⟨b1, b2⟩ := C.fold_back (ev f) (od f) M word hcd hi e1 e2
    have w1 := hW i (by omega)
    rw [ps_halves] at w1
    have w2 := dvdt (hW (i + m) (by omega)) (ps_neg f (x := pt p s r i) (y := pt p s r (i + m)) (C.neg i) M)
    have k1 := (emod_eq_iff hp0).2 (dvdt b1 (dvdn w1))
    have k2 := (emod_eq_iff hp0).2 (dvdt b2 (dvdn w2))
    unfold dq
    rw [hlw, hlW]
    rw [Nat.add_comm m i]
    constructor
    · simp [show i < 2 * m from by omega, k1]
    · simp [show i + m < 2 * m from by omega, k2]
  have hA : Cod.cnt (dq p word W) m ≤ Cod.cnt (fun i => dq p (foldz p m r s word c) y i || dq p (foldz p m r s word d) z i) m := Cod.cnt_mono (fun i hi h => by
    cases h1 : dq p (foldz p m r s word c) y i with
    | true => rfl
    | false =>
      cases h2 : dq p (foldz p m r s word d) z i with
      | true => simp
      | false => rw [(key i hi h1 h2).1] at h; cases h)
  have hB : Cod.cnt (fun j => dq p word W (m + j)) m ≤ Cod.cnt (fun i => dq p (foldz p m r s word c) y i || dq p (foldz p m r s word d) z i) m := Cod.cnt_mono (fun i hi h => by
    cases h1 : dq p (foldz p m r s word c) y i with
    | true => rfl
    | false =>
      cases h2 : dq p (foldz p m r s word d) z i with
      | true => simp
      | false => rw [(key i hi h1 h2).2] at h; cases h)
  have hor := Cod.cnt_or (dq p (foldz p m r s word c) y) (dq p (foldz p m r s word d) z) m
  omega

end Go.Proofs.YtmmlphdekeflfaaGreatDoor.Fol

namespace Go.Proofs.YtmmlphdekeflfaaGreatDoor
open Go.RowKit

/-- a domain and half of it -/
structure Dh (w : World) (q b d h m : Nat) (r s : Int) : Prop where
  dom : DO w q b d (2 * m) r s
  half : DO w q b h m (r * r % (q : Int)) (s * s % (q : Int))
theorem Dh.step {w w' : World} {q b d h m : Nat} {r s : Int} (D : Dh w q b d h m r s) (e : Below w.heap.size w w') : Dh w' q b d h m r s := ⟨D.dom.step e, D.half.step e⟩
end Go.Proofs.YtmmlphdekeflfaaGreatDoor

namespace Go.Proofs.YtmmlphdekeflfaaGreatDoor
open Go.RowKit

end Go.Proofs.YtmmlphdekeflfaaGreatDoor

namespace Go.Proofs.YtmmlphdekeflfaaGreatDoor
open Go.RowKit Pol

end Go.Proofs.YtmmlphdekeflfaaGreatDoor

namespace Go.Proofs.YtmmlphdekeflfaaGreatDoor
open Go.RowKit

end Go.Proofs.YtmmlphdekeflfaaGreatDoor

namespace Go.Proofs.YtmmlphdekeflfaaGreatDoor
open Go.RowKit

end Go.Proofs.YtmmlphdekeflfaaGreatDoor
