/- PledgeKeeps, plainly: rows that are no codewords are seen in all mixtures but a few. -/
import Derived.Test.YtmmlphdekeflfaaDoorPgC
import Derived.Test.YtmmlphdekeflfaaDoorFolQ
namespace Go.Proofs.YtmmlphdekeflfaaDoor
open Go.RowKit Pol

theorem ps_sm2 (c : Nat → Nat → Int) (x y : Int) (n N : Nat) : Pol.ps (fun l => Pol.ps (fun i => c i l) x n) y N = Pol.ps (fun i => Pol.ps (c i) y N) x n := by
  rw [ps_sm, ps_sm]
  have h1 : ∀ l, Pol.ps (fun i => c i l) x n * y ^ l = Dom.sm (fun i => c i l * x ^ i * y ^ l) n := fun l => by
    rw [ps_sm, Int.mul_comm, ← Dom.sm_mul]
    exact Dom.sm_same (fun i _ => by grind)
  have h2 : ∀ i, Pol.ps (c i) y N * x ^ i = Dom.sm (fun l => c i l * x ^ i * y ^ l) N := fun i => by
    rw [ps_sm, Int.mul_comm, ← Dom.sm_mul]
    exact Dom.sm_same (fun l _ => by grind)
  simp only [h1, h2]
  exact (Dom.sm_swap (fun l i => c i l * x ^ i * y ^ l) N n)
theorem mix_low {p N : Nat} {r s : Int} (C : Fol.Cir p N r s) (hn : ¬ (p : Int) ∣ (N : Int)) (rows : List (List Int)) (x : Int) (k : Nat) (hN : (rat rows 0).length = N) :
    (bk p N r s (mixz p rows x)).length ≤ k ↔ ∀ l, k ≤ l → l < N → (p : Int) ∣ Pol.ps (fun i => Pol.cf (bk p N r s (rat rows i)) l) x rows.length := by
  refine C.bk_low hn (mixz p rows x) _ (fun j hj => ?_) k
  have hz : zat (mixz p rows x) j = evz p (pgc rows j) x := by unfold mixz; rw [hN, ls_at _ _ _ hj]
  rw [hz, ps_sm2]
  unfold evz
  rw [pgc_len]
  refine Fol.dvdt (Pol.emod_dvd p _) (Pol.ps_congr x rows.length (fun i hi => ?_))
  rw [pgc_at j hi]
  exact C.word_is hn (rat rows i) j hj
theorem ps_zero {f : Nat → Int} {n : Nat} (x : Int) (h : ∀ i, i < n → f i = 0) : Pol.ps f x n = 0 := by
  rw [ps_sm, Dom.sm_same (g := fun _ => 0) (fun i hi => by rw [h i hi]; omega), Dom.sm_zero]
theorem keeps_all {p N : Nat} {r s : Int} (C : Fol.Cir p N r s) (hn : ¬ (p : Int) ∣ (N : Int)) (rows : List (List Int)) (k : Nat) (hN : (rat rows 0).length = N) (h : ∀ i, i < rows.length → (bk p N r s (rat rows i)).length ≤ k) (x : Int) : (bk p N r s (mixz p rows x)).length ≤ k :=
  (mix_low C hn rows x k hN).2 (fun l hl _ => by
    rw [ps_zero x (fun i hi => Pol.cf_ge (by have := h i hi; omega))]
    exact Int.dvd_zero _)
theorem keeps_few {p N : Nat} {r s : Int} (C : Fol.Cir p N r s) (hn : ¬ (p : Int) ∣ (N : Int)) (rows : List (List Int)) (k : Nat) (hN : (rat rows 0).length = N) {i : Nat} (hi : i < rows.length) (h : ¬ (bk p N r s (rat rows i)).length ≤ k) :
    Cod.cnt (fun x => decide ((bk p N r s (mixz p rows ((x : Nat) : Int))).length ≤ k)) p < rows.length := by
  rcases Nat.lt_or_ge (Cod.cnt (fun x => decide ((bk p N r s (mixz p rows ((x : Nat) : Int))).length ≤ k)) p) rows.length with g | g
  · exact g
  · exfalso
    apply h
    refine (C.bk_low hn (rat rows i) _ (C.word_is hn (rat rows i)) k).2 (fun l h1 h2 => ?_)
    refine Cod.zero_of_roots (p := p) C.pr (xs := fun j => ((j : Nat) : Int)) (n := p) (fun a b hab hb hd => ?_) (fun i => Pol.cf (bk p N r s (rat rows i)) l) rows.length _ (fun j hj hP => (mix_low C hn rows _ k hN).1 (of_decide_eq_true hP) l h1 h2) g i hi
    obtain ⟨c, hc⟩ := hd
    have h0 : (0 : Int) < (b : Int) - (a : Int) := by omega
    have h9 : (b : Int) - (a : Int) < p := by omega
    have : ((b : Int) - (a : Int)) % (p : Int) = 0 := by rw [hc]; exact Int.mul_emod_right _ _
    rw [Int.emod_eq_of_lt (by omega) h9] at this
    omega

end Go.Proofs.YtmmlphdekeflfaaDoor
