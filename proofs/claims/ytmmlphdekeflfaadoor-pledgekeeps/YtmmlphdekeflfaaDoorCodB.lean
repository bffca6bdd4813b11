/- Package code: Is, Distance; the reference's Distance. -/
import Derived.Test.YtmmlphdekeflfaaDoorCodA
namespace Go.Proofs.YtmmlphdekeflfaaDoor
open Go.RowKit

theorem tpn_can {p : Nat} (hp : 0 < p) {zs : List Int} (h : Pol.Can p zs) : tpn p (zat zs) zs.length = zs.length := by
  have h1 := congrArg List.length (Pol.trim_id hp h)
  rw [Pol.trim, Pol.mk_length] at h1
  have e : zat zs = Pol.cf zs := funext fun j => zat_cf zs j
  unfold tpn
  rw [e]
  exact h1

theorem is_any {w : World} {p b d n : Nat} {r s : Int} (D : DO w p b d n r s) (k : Nat) (a : Option Addr) (cap : Nat) (zs : List Int) (h1 : 1 ≤ k) (h2 : k ≤ n) (hlen : zs.length = n) (hfit : Fits zs) (hl : Lst w.heap.size w a cap zs) :
    Calls Tryd.prog 7 #[.pointer (some ⟨d, 0, none⟩), .int .i64 k, .slice a n cap] w fun e w' => e = .returned (.bool (decide ((bk p n r s zs).length ≤ k))) ∧ Below w.heap.size w w' := by
  have hn := D.pos.2
  have HB := hid (bound_yes k D.da h1 h2 hn)
  have HC := hid (coef_ok D a cap zs hlen hfit hl)
  have HD := hid D
  have hbl := bk_len p n r s zs
  have HBC := hid (bk_can (by have := D.h3; omega) n r s zs : Pol.Can p (bk p n r s zs))
  have HTP := hid (tpn_can (by have := D.h3; omega) HBC.out)
  have h3 := D.h3
  have hm := D.hm
  generalize bk p n r s zs = B at *
  clear D hfit hl
  go_enter Tryd.func7, Tryd.ntmps7
  go_wp2_with fail
  refine HB.out.mono ?_
  rintro e w1 ⟨rfl, rfl⟩
  go_wp2_with fail
  refine HC.out.mono ?_
  rintro e w2 ⟨g, c, rfl, hl2, hb2⟩
  have HL2 := hid hl2
  have HB2 := hid hb2
  have HD2 := hid (HD.out.step hb2)
  have HDG := hid (deg_any p b B.length c (· < w2.heap.size) (some ⟨g, 0, none⟩) (zat B) w2 h3 hm HD2.out.hp (by omega) (can_fits hm HBC.out) hl2.row.f)
  rw [HTP.out] at HDG
  clear hl2 hb2
  by_cases hk : B.length ≤ k
  · have e1 : (B.length : Int) - 1 < (k : Int) := by omega
    have HK : Hid (decide (B.length ≤ k) = true) := decide_eq_true hk
    go_wp2_with fail
    refine (dfield_any d b n r s w2 HD2.out.da).mono ?_
    rintro e w3 ⟨rfl, rfl⟩
    go_wp2_with fail
    refine HDG.out.mono ?_
    rintro e w4 ⟨rfl, rfl⟩
    go_wp2_with fail
    go_ret
    exact ⟨by rw [HK.out]; first | rfl | (simp; omega), HB2.out⟩
  · have e1 : ¬ (B.length : Int) - 1 < (k : Int) := by omega
    have HK : Hid (decide (B.length ≤ k) = false) := decide_eq_false hk
    go_wp2_with fail
    refine (dfield_any d b n r s w2 HD2.out.da).mono ?_
    rintro e w3 ⟨rfl, rfl⟩
    go_wp2_with fail
    refine HDG.out.mono ?_
    rintro e w4 ⟨rfl, rfl⟩
    go_wp2_with fail
    go_ret
    exact ⟨by rw [HK.out]; first | rfl | (simp; omega), HB2.out⟩

end Go.Proofs.YtmmlphdekeflfaaDoor
