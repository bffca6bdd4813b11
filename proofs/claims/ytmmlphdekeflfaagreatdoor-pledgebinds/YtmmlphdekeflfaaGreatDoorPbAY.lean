/- Plain facts on folded words: low degrees, distances. What package fold's Fold must answer; attestlaw5.plain, lives. PledgeBinds, plainly: who says two things of one root has shown two columns that are not the same. PledgeKeeps, plainly: rows that are no codewords are seen in all mixtures but a few. Package code: Is, Distance; the reference's Distance. -/
import Derived.Test.YtmmlphdekeflfaaGreatDoorPbAT
import Derived.Test.YtmmlphdekeflfaaGreatDoorDoms
import Derived.Test.YtmmlphdekeflfaaGreatDoorPgJ
import Derived.Test.YtmmlphdekeflfaaGreatDoorPbAX
import Derived.Test.YtmmlphdekeflfaaGreatDoorPbAR
import Derived.Test.YtmmlphdekeflfaaGreatDoorPbAF
namespace Go.Proofs.YtmmlphdekeflfaaGreatDoor.Fol
open Pol Dom

theorem Cir.unlike {p n : Nat} {r s : Int} (C : Cir p n r s) {i j : Nat} (hij : i < j) (hj : j < n) : ¬ (p : Int) ∣ pt p s r j - pt p s r i := fun h => by
  unfold pt at h
  have h1 : (p : Int) ∣ s * r ^ j - s * r ^ i := dvdt (dvdn (emod_dvd p (s * r ^ j))) (dvdt h (emod_dvd p (s * r ^ i)))
  rw [show s * r ^ j - s * r ^ i = s * (r ^ j - r ^ i) from by grind] at h1
  exact (prime_mul C.pr h1).elim C.sd (C.ord.unlike C.pr hij hj)
theorem cnt_split (P : Nat → Bool) (m n : Nat) : Cod.cnt P (m + n) = Cod.cnt P m + Cod.cnt (fun j => P (m + j)) n := by
  induction n with
  | zero => simp [Cod.cnt]
  | succ n ih => rw [← Nat.add_assoc, Cod.cnt, ih, Cod.cnt]; omega
/-- what is near stays near -/
theorem Cir.near {p m : Nat} {r s : Int} (C : Cir p (2 * m) r s) (f : Nat → Int) (M : Nat) (word y z W : List Int) {c d : Int} (hcd : ¬ (p : Int) ∣ d - c) (hlw : word.length = 2 * m) (hly : y.length = m) (hlz : z.length = m) (hlW : W.length = 2 * m)
    (hy : ∀ i, i < m → (p : Int) ∣ zat y i - ps (evod f c) (pt p (s * s % (p : Int)) (r * r % (p : Int)) i) M) (hz : ∀ i, i < m → (p : Int) ∣ zat z i - ps (evod f d) (pt p (s * s % (p : Int)) (r * r % (p : Int)) i) M)
    (hW : ∀ j, j < 2 * m → (p : Int) ∣ zat W j - ps f (pt p s r j) (2 * M)) : dist p word W ≤ 2 * (dist p (foldz p m r s word c) y + dist p (foldz p m r s word d) z) := by
  have hp0 : 0 < p := by have := C.h3; omega
  have hlf : ∀ c, (foldz p m r s word c).length = m := fun c => foldz_len _ _ _ _ _ _
  unfold dist
  rw [hlw, hlW, hlf, hlf, hly, hlz, Nat.max_self, Nat.max_self, show 2 * m = m + m from by omega, cnt_split]
  have key : ∀ i, i < m → dq p (foldz p m r s word c) y i = false → dq p (foldz p m r s word d) z i = false → dq p word W i = false ∧ dq p word W (m + i) = false := fun i hi h1 h2 => by
    unfold dq at h1 h2
    rw [hlf, hly] at h1
    rw [hlf, hlz] at h2
    simp only [hi, decide_true, Bool.true_and, Bool.not_eq_false', beq_iff_eq] at h1 h2
    have e1 := dvdt ((emod_eq_iff hp0).1 h1) (hy i hi)
    have e2 := dvdt ((emod_eq_iff hp0).1 h2) (hz i hi)
    obtain ⟨b1, b2⟩ := C.fold_back (ev f) (od f) M word hcd hi e1 e2
    have w1 := hW i (by omega)
    rw [ps_halves] at w1
    have w2 := dvdt (hW (i + m) (by omega)) (ps_neg f (x := pt p s r i) (y := pt p s r (i + m)) (C.neg i) M)
    have k1 := (emod_eq_iff hp0).2 (dvdt b1 (dvdn w1))
    have k2 := (emod_eq_iff hp0).2 (dvdt b2 (dvdn w2))
    unfold dq
    rw [hlw, hlW]
    rw [Nat.add_comm m i]
    constructor
    · simp [show i < 2 * m from by omega, k1]
    · simp [show i + m < 2 * m from by omega, k2]
  have hA : Cod.cnt (dq p word W) m ≤ Cod.cnt (fun i => dq p (foldz p m r s word c) y i || dq p (foldz p m r s word d) z i) m := Cod.cnt_mono (fun i hi h => by
    cases h1 : dq p (foldz p m r s word c) y i with
    | true => rfl
    | false =>
      cases h2 : dq p (foldz p m r s word d) z i with
      | true => simp
      | false => rw [(key i hi h1 h2).1] at h; cases h)
  have hB : Cod.cnt (fun j => dq p word W (m + j)) m ≤ Cod.cnt (fun i => dq p (foldz p m r s word c) y i || dq p (foldz p m r s word d) z i) m := Cod.cnt_mono (fun i hi h => by
    cases h1 : dq p (foldz p m r s word c) y i with
    | true => rfl
    | false =>
      cases h2 : dq p (foldz p m r s word d) z i with
      | true => simp
      | false => rw [(key i hi h1 h2).2] at h; cases h)
  have hor := Cod.cnt_or (dq p (foldz p m r s word c) y) (dq p (foldz p m r s word d) z) m
  omega

end Go.Proofs.YtmmlphdekeflfaaGreatDoor.Fol

namespace Go.Proofs.YtmmlphdekeflfaaGreatDoor
open Go.RowKit

theorem DO.cir {w : World} {p b d n : Nat} {r s : Int} (D : DO w p b d n r s) : Fol.Cir p n r s := ⟨D.pr, D.h3, D.ord, D.hsd⟩
/-- a domain and half of it -/
structure Dh (w : World) (q b d h m : Nat) (r s : Int) : Prop where
  dom : DO w q b d (2 * m) r s
  half : DO w q b h m (r * r % (q : Int)) (s * s % (q : Int))
theorem Dh.step {w w' : World} {q b d h m : Nat} {r s : Int} (D : Dh w q b d h m r s) (e : Below w.heap.size w w') : Dh w' q b d h m r s := ⟨D.dom.step e, D.half.step e⟩
end Go.Proofs.YtmmlphdekeflfaaGreatDoor

namespace Go.Proofs.YtmmlphdekeflfaaGreatDoor
open Go.RowKit

theorem dtz_congr {p n : Nat} {a b L : List Int} (h : ∀ i, i < n → (p : Int) ∣ zat a i - zat b i) : dtz p n a L = dtz p n b L := by
  unfold dtz
  apply emod_of_dvd
  refine Dom.sm_congr (fun i hi => ?_)
  obtain ⟨k, hk⟩ := h i hi
  exact ⟨k * zat L i, by rw [← Int.sub_mul, hk, Int.mul_assoc]⟩
theorem elr_dvd {q : Nat} (hq : 0 < q) {x y : List Int} (h : elr q x = elr q y) : x.length = y.length ∧ ∀ i, i < x.length → (q : Int) ∣ zat x i - zat y i := by
  have hl : x.length = y.length := by
    have := congrArg List.length h
    unfold elr at this
    rwa [ls_len, ls_len] at this
  refine ⟨hl, fun i hi => ?_⟩
  have := congrArg (fun l => zat l i) h
  simp only [elr] at this
  rw [ls_at _ _ _ hi, ls_at _ _ _ (by omega)] at this
  exact (Pol.emod_eq_iff hq).1 (by rw [this])
/-- all places, ascending -/
theorem ascN_all {N : Nat} {ps : List Int} (h : AscN (N : Int) ps) (hl : ps.length = N) (k : Nat) (hk : k < N) : zat ps k = (k : Int) := by
  have h1 : ∀ j, j < N → (j : Int) ≤ zat ps j := fun j => by
    induction j with
    | zero => intro hj; have := (h 0 (by omega)).1; omega
    | succ j ih =>
      intro hj
      have h2 := ih (by omega)
      have h3 := (h (j + 1) (by omega)).2.2 (by omega)
      rw [show j + 1 - 1 = j from by omega] at h3
      omega
  have h2 : ∀ i, i < N → zat ps (N - 1 - i) ≤ ((N - 1 - i : Nat) : Int) := fun i => by
    induction i with
    | zero => intro hi; have := (h (N - 1 - 0) (by omega)).2.1; omega
    | succ i ih =>
      intro hi
      have h3 := ih (by omega)
      have h4 := (h (N - 1 - i) (by omega)).2.2 (by omega)
      rw [show N - 1 - i - 1 = N - 1 - (i + 1) from by omega] at h4
      omega
  have h3 := h1 k hk
  have h4 := h2 (N - 1 - k) (by omega)
  rw [show N - 1 - (N - 1 - k) = k from by omega] at h4
  omega
theorem agB_at {p N : Nat} {r s : Int} {said ps : List Int} {rows : List (List Int)} {A : List Int → Int} (h : agB p N r s said ps rows A = true) (hps : AscN (N : Int) ps) (hl : ps.length = N) (k : Nat) (hk : k < N) : evz p said (Dom.pt p s r k) = A (rat rows k) := by
  have := of_decide_eq_true h k (by omega)
  rw [ascN_all hps hl k hk] at this
  rw [show (((k : Nat) : Int) % (N : Int)).toNat = k from by rw [Int.emod_eq_of_lt (by omega) (by omega)]; omega] at this
  exact this
/-- one root, all columns shown, and all alike: one value -/
theorem binds_plain {p N : Nat} {r s : Int} (C : Fol.Cir p N r s) (pa pb psA psB : List Int) (rowsA rowsB : List (List Int)) (L1 L2 : List Int) (hpa : pa.length ≤ N) (hl : pa.length = pb.length) (hA : AscN (N : Int) psA) (hB : AscN (N : Int) psB) (lA : psA.length = N) (lB : psB.length = N)
    (gA : agB p N r s pa psA rowsA (fun l => dtz p l.length l L1) = true) (gB : agB p N r s pb psB rowsB (fun l => dtz p l.length l L1) = true) (hno : ¬ Apart p psA rowsA psB rowsB) : dtz p pa.length pa L2 = dtz p pb.length pb L2 := by
  have hp0 : 0 < p := by have := C.h3; omega
  have hrow : ∀ k, k < N → elr p (rat rowsA k) = elr p (rat rowsB k) := fun k hk => by
    by_cases e : elr p (rat rowsA k) = elr p (rat rowsB k)
    · exact e
    · exact absurd ⟨k, k, by omega, by omega, by rw [ascN_all hA lA k hk, ascN_all hB lB k hk], e⟩ hno
  have hev : ∀ k, k < N → (p : Int) ∣ Pol.ps (zat pa) (Dom.pt p s r k) pa.length - Pol.ps (zat pb) (Dom.pt p s r k) pa.length := fun k hk => by
    have e1 := agB_at gA hA lA k hk
    have e2 := agB_at gB hB lB k hk
    obtain ⟨q1, q2⟩ := elr_dvd hp0 (hrow k hk)
    have e3 : dtz p (rat rowsA k).length (rat rowsA k) L1 = dtz p (rat rowsB k).length (rat rowsB k) L1 := by rw [← q1]; exact dtz_congr q2
    have e4 : evz p pa (Dom.pt p s r k) = evz p pb (Dom.pt p s r k) := by rw [e1, e2]; exact e3
    unfold evz at e4
    rw [← hl] at e4
    exact (Pol.emod_eq_iff hp0).1 (by rw [e4])
  have hc := Cod.same_of_agree (p := p) C.pr (xs := Dom.pt p s r) (n := N) (fun i j h1 h2 => C.unlike h1 h2) (zat pa) (zat pb) pa.length (fun _ => true) (fun j hj _ => hev j hj) (by rw [cnt_true]; exact hpa)
  rw [← hl]
  exact dtz_congr hc
/-- the root, modulo the field -/
theorem chkf_root {q n : Nat} {ra rb : List Int} {N : Int} {ps : List Int} {rows nodes : List (List Int)} (h : samb q ra rb = true) (hl : ra.length = rb.length) (hb : chkf q n rb N ps rows nodes = true) : chkf q n ra N ps rows nodes = true := by
  unfold chkf at hb ⊢
  rw [hl]
  have hs : ∀ x : List Int, samb q x ra = samb q x rb := fun x => by
    have e := samb_iff.1 h
    rw [Bool.eq_iff_iff, samb_iff, samb_iff, e]
  rw [hs]
  exact hb

end Go.Proofs.YtmmlphdekeflfaaGreatDoor

namespace Go.Proofs.YtmmlphdekeflfaaGreatDoor
open Go.RowKit Pol

end Go.Proofs.YtmmlphdekeflfaaGreatDoor

namespace Go.Proofs.YtmmlphdekeflfaaGreatDoor
open Go.RowKit

end Go.Proofs.YtmmlphdekeflfaaGreatDoor
