/- What is opened: plain facts. Package pledge: Check, where it says no at once. Trees: on the way down to a place. Plain. Package tree: parting. slices.BinarySearch of any ascending list; what Collide answers. Plain facts on folded words: low degrees, distances. -/
import Derived.Test.YtlhjifpomchnfaaGreatDoorPoAN
import Derived.Test.YtlhjifpomchnfaaGreatDoorTres
import Derived.Test.YtlhjifpomchnfaaGreatDoorPoAW
import Derived.Test.YtlhjifpomchnfaaGreatDoorPoAU
import Derived.Test.YtlhjifpomchnfaaGreatDoorPoAI
import Derived.Test.YtlhjifpomchnfaaGreatDoorPoAQ
namespace Go.Proofs.YtlhjifpomchnfaaGreatDoor
open Go.RowKit

theorem rat_mem {rs : List (List Int)} {k : Nat} (h : k < rs.length) : rat rs k ∈ rs := by
  show rs.getD k [] ∈ rs
  rw [List.getD_eq_getElem?_getD, List.getElem?_eq_getElem h, Option.getD_some]
  exact List.getElem_mem h
theorem ascN_once {N : Nat} {ps os : List Int} (h : OnceIs ps os) (hin : ∀ x, x ∈ ps → 0 ≤ x ∧ x < (N : Int)) : AscN (N : Int) os := fun j hj => by
  have hb := hin (zat os j) ((h.2 _).1 (zat_mem hj))
  refine ⟨hb.1, hb.2, fun h0 => ?_⟩
  have := List.pairwise_iff_getElem.1 h.1 (j - 1) j (by omega) hj (by omega)
  simpa [zat, hj, show j - 1 < os.length by omega] using this
theorem shw_fits {q : Nat} (h3 : 3 ≤ q) (h4 : q ≤ 2147483647) {rows : List (List Int)} {os : List Int} (hfr : FitsR rows) (ha : AscN (rows.length : Int) os) : FitsR (shw q rows os) := fun k hk => by
  rw [shw_len] at hk
  rw [rat_shw hk]
  have h := ha k hk
  refine ⟨elr_fits h3 h4 _, ?_⟩
  unfold elr
  rw [ls_len]
  exact (hfr _ (by omega)).2
theorem ndf_dgst {q : Nat} (h3 : 3 ≤ q) (n : Nat) {rows : List (List Int)} (os : List Int) (h1 : 1 ≤ rows.length) {k : Nat} (hk : k < (ndf q n rows.length rows os 0).length) : Dgst q (rat (ndf q n rows.length rows os 0) k) := by
  have hm := rat_mem hk
  generalize rat (ndf q n rows.length rows os 0) k = x at *
  rw [ndf_all q n rows os h1] at hm
  obtain ⟨g, _, e⟩ := List.mem_map.1 hm
  rw [← e]
  exact DR_dgst h3 n rows g.1 g.2
theorem ndf_fits {q : Nat} (h3 : 3 ≤ q) (h4 : q ≤ 2147483647) (n : Nat) {rows : List (List Int)} (os : List Int) (h1 : 1 ≤ rows.length) : FitsR (ndf q n rows.length rows os 0) := fun k hk => by
  have := ndf_dgst h3 n os h1 hk
  exact ⟨this.fits h4, by rw [this.1]; omega⟩
end Go.Proofs.YtlhjifpomchnfaaGreatDoor

namespace Go.Proofs.YtlhjifpomchnfaaGreatDoor
open Go.RowKit

end Go.Proofs.YtlhjifpomchnfaaGreatDoor

namespace Go.Proofs.YtlhjifpomchnfaaGreatDoor
open Go.RowKit

/-- two lists, unlike as elements, with one digest -/
def Clash (q n : Nat) (U V : List Int) : Prop := U ≠ V ∧ elr q U = U ∧ elr q V = V ∧ digl q n U = digl q n V ∧ Fits U ∧ Fits V ∧ U.length ≤ 17592186044001 ∧ V.length ≤ 17592186044001

/-- what holds of a group on the way down in one walk -/
structure Way (q n N : Nat) (ps : List Int) (rows nodes : List (List Int)) (M' : Nat → Nat → Option (List Int)) (a b : Nat) : Prop where
  rd : Rd q n (M0 q n N ps rows nodes) a b (DV q n (M0 q n N ps rows nodes) a b)
  found : M' a b ≠ none

theorem Way.down {q n N : Nat} {ps : List Int} {rows nodes : List (List Int)} {M' : Nat → Nat → Option (List Int)} {a b j : Nat} (h : Way q n N ps rows nodes M' a b) (h1 : 1 ≤ N) (hj : j < ps.length) (ha : (a : Int) ≤ zat ps j) (hb : zat ps j < (b : Int)) (h2 : 2 ≤ b - a)
    (hcl : ClM (M0 q n N ps rows nodes) M') : Way q n N ps rows nodes M' a (a + lft (b - a)) ∧ Way q n N ps rows nodes M' (a + lft (b - a)) b ∧ DV q n (M0 q n N ps rows nodes) a b = digl q n (1 :: (DV q n (M0 q n N ps rows nodes) a (a + lft (b - a)) ++ DV q n (M0 q n N ps rows nodes) (a + lft (b - a)) b)) := by
  have hno : M0 q n N ps rows nodes a b = none := M0_none h1 h2 (smb_iff.2 ⟨j, hj, ha, hb⟩)
  have hr := h.rd
  generalize hD : DV q n (M0 q n N ps rows nodes) a b = D at hr
  cases hr with
  | found e => rw [hno] at e; cases e
  | node _ _ r1 r2 =>
    rcases hcl a b h.found with hc | ⟨_, c1, c2⟩
    · exact absurd hno hc
    · refine ⟨⟨by rw [DV_eq r1]; exact r1, c1⟩, ⟨by rw [DV_eq r2]; exact r2, c2⟩, ?_⟩
      rw [DV_eq r1, DV_eq r2]

end Go.Proofs.YtlhjifpomchnfaaGreatDoor

namespace Go.Proofs.YtlhjifpomchnfaaGreatDoor
open Go.RowKit

/-- a list, as a value -/
def LstV (W : World) (v : Value) (U : List Int) : Prop := ∃ a c, v = .slice a U.length c ∧ Lst W.heap.size W a c U
theorem LstV.keep {W W' : World} {v : Value} {U : List Int} (h : LstV W v U) (hb : Below W.heap.size W W') : LstV W' v U := by
  obtain ⟨a, c, rfl, hl⟩ := h
  exact ⟨a, c, rfl, (hl.below hb).mono hb.size⟩
theorem LstV.of {W : World} {base : Nat} {v : Value} {U : List Int} (h : W.ownsRow base 3 1 v U.length (U.map (Value.int .i64))) : LstV W v U := by
  obtain ⟨a, c, rfl, hl⟩ := lst_of_owns h
  exact ⟨a, c, rfl, hl⟩
/-- the state of the way down -/
structure PSt (q n N : Nat) (psA psB : List Int) (rowsA nodesA rowsB nodesB : List (List Int)) (MA MB : Nat → Nat → Option (List Int)) (w : World) (a b : Nat) (wr : World) : Prop where
  row : wr.rowIs w.heap.size 201 2 (duo (.int .i64 (a : Int)) (.int .i64 (b : Int)))
  below : Below w.heap.size w wr
  wayA : Way q n N psA rowsA nodesA MA a b
  wayB : Way q n N psB rowsB nodesB MB a b
  same : DV q n (M0 q n N psA rowsA nodesA) a b = DV q n (M0 q n N psB rowsB nodesB) a b

end Go.Proofs.YtlhjifpomchnfaaGreatDoor

namespace Go.Proofs.YtlhjifpomchnfaaGreatDoor
open Go.RowKit

/-- rows that are unlike at a place that both show -/
def Apart (q : Nat) (psA : List Int) (rowsA : List (List Int)) (psB : List Int) (rowsB : List (List Int)) : Prop := ∃ i j, i < psA.length ∧ j < psB.length ∧ zat psA i = zat psB j ∧ elr q (rat rowsA i) ≠ elr q (rat rowsB j)
/-- what Collide answers -/
def CollR (q n : Nat) (tt : Prop) (w : World) (e : Ending) (w' : World) : Prop :=
  ((e = .returned (.tuple #[.slice none 0 0, .slice none 0 0, .bool false]) ∧ ¬ tt) ∨ (∃ v1 v2 U V, e = .returned (.tuple #[v1, v2, .bool true]) ∧ LstV w' v1 U ∧ LstV w' v2 V ∧ Clash q n U V ∧ tt)) ∧ Below w.heap.size w w'

end Go.Proofs.YtlhjifpomchnfaaGreatDoor

namespace Go.Proofs.YtlhjifpomchnfaaGreatDoor.Fol
open Pol Dom

theorem Cir.unlike {p n : Nat} {r s : Int} (C : Cir p n r s) {i j : Nat} (hij : i < j) (hj : j < n) : ¬ (p : Int) ∣ pt p s r j - pt p s r i := fun h => by
  unfold pt at h
  have h1 : (p : Int) ∣ s * r ^ j - s * r ^ i := dvdt (dvdn (emod_dvd p (s * r ^ j))) (dvdt h (emod_dvd p (s * r ^ i)))
  rw [show s * r ^ j - s * r ^ i = s * (r ^ j - r ^ i) from by grind] at h1
  exact (prime_mul C.pr h1).elim C.sd (C.ord.unlike C.pr hij hj)
theorem cnt_split (P : Nat → Bool) (m n : Nat) : Cod.cnt P (m + n) = Cod.cnt P m + Cod.cnt (fun j => P (m + j)) n := by
  induction n with
  | zero => simp [Cod.cnt]
  | succ n ih => rw [← Nat.add_assoc, Cod.cnt, ih, Cod.cnt]; omega
/-- what is near stays near -/
theorem Cir.near {p m : Nat} {r s : Int} (C : Cir p (2 * m) r s) (f : Nat → Int) (M : Nat) (word y z W : List Int) {c d : Int} (hcd : ¬ (p : Int) ∣ d - c) (hlw : word.length = 2 * m) (hly : y.length = m) (hlz : z.length = m) (hlW : W.length = 2 * m)
    (hy : ∀ i, i < m → (p : Int) ∣ zat y i - ps (evod f c) (pt p (s * s % (p : Int)) (r * r % (p : Int)) i) M) (hz : ∀ i, i < m → (p : Int) ∣ zat z i - ps (evod f d) (pt p (s * s % (p : Int)) (r * r % (p : Int)) i) M)
    (hW : ∀ j, j < 2 * m → (p : Int) ∣ zat W j - ps f (pt p s r j) (2 * M)) : dist p word W ≤ 2 * (dist p (foldz p m r s word c) y + dist p (foldz p m r s word d) z) := by
  have hp0 : 0 < p := by have := C.h3; omega
  have hlf : ∀ c, (foldz p m r s word c).length = m := fun c => foldz_len _ _ _ _ _ _
  unfold dist
  rw [hlw, hlW, hlf, hlf, hly, hlz, Nat.max_self, Nat.max_self, show 2 * m = m + m from by omega, cnt_split]
  have key : ∀ i, i < m → dq p (foldz p m r s word c) y i = false → dq p (foldz p m r s word d) z i = false → dq p word W i = false ∧ dq p word W (m + i) = false := fun i hi h1 h2 => by
    unfold dq at h1 h2
    rw [hlf, hly] at h1
    rw [hlf, hlz] at h2
    simp only [hi, decide_true, Bool.true_and, Bool.not_eq_false', beq_iff_eq] at h1 h2
    have e1 := dvdt ((emod_eq_iff hp0).1 h1) (hy i hi)
    have e2 := dvdt ((emod_eq_iff hp0).1 h2) (hz i hi)
    obtain ⟨b1, b2⟩ := C.fold_back (ev f) (od f) M word hcd hi e1 e2
    have w1 := hW i (by omega)
    rw [ps_halves] at w1
    have w2 := dvdt (hW (i + m) (by omega)) (ps_neg f (x := pt p s r i) (y := pt p s r (i + m)) (C.neg i) M)
    have k1 := (emod_eq_iff hp0).2 (dvdt b1 (dvdn w1))
    have k2 := (emod_eq_iff hp0).2 (dvdt b2 (dvdn w2))
    unfold dq
    rw [hlw, hlW]
    rw [Nat.add_comm m i]
    constructor
    · simp [show i < 2 * m from by omega, k1]
    · simp [show i + m < 2 * m from by omega, k2]
  have hA : Cod.cnt (dq p word W) m ≤ Cod.cnt (fun i => dq p (foldz p m r s word c) y i || dq p (foldz p m r s word d) z i) m := Cod.cnt_mono (fun i hi h => by
    cases h1 : dq p (foldz p m r s word c) y i with
    | true => rfl
    | false =>
      cases h2 : dq p (foldz p m r s word d) z i with
      | true => simp
      | false => rw [(key i hi h1 h2).1] at h; cases h)
  have hB : Cod.cnt (fun j => dq p word W (m + j)) m ≤ Cod.cnt (fun i => dq p (foldz p m r s word c) y i || dq p (foldz p m r s word d) z i) m := Cod.cnt_mono (fun i hi h => by
    cases h1 : dq p (foldz p m r s word c) y i with
    | true => rfl
    | false =>
      cases h2 : dq p (foldz p m r s word d) z i with
      | true => simp
      | false => rw [(key i hi h1 h2).2] at h; cases h)
  have hor := Cod.cnt_or (dq p (foldz p m r s word c) y) (dq p (foldz p m r s word d) z) m
  omega

end Go.Proofs.YtlhjifpomchnfaaGreatDoor.Fol
