/- Package fold, plain: what Make makes Check takes. -/
import Derived.Test.YtgcjpddpolaofahGreatFolz
import Derived.Test.YtgcjpddpolaofahGreatCods
import Derived.Test.YtgcjpddpolaofahGreatFogs
import Derived.Test.YtgcjpddpolaofahGreatTres
import Derived.Test.YtgcjpddpolaofahGreatTrhJ
import Derived.Test.YtgcjpddpolaofahGreatFolG
namespace Go.Proofs.YtgcjpddpolaofahGreat
open Go.RowKit

theorem pairz_mod {q : Nat} (hq : 0 < q) (x a b c : Int) : Fol.pairz q x (a % (q : Int)) (b % (q : Int)) c = Fol.pairz q x a b c := by
  unfold Fol.pairz
  rw [Pol.emod_eq_iff hq]
  obtain ⟨u, hu⟩ := Pol.emod_dvd q a
  obtain ⟨v, hv⟩ := Pol.emod_dvd q b
  have e1 : a % (q : Int) = a + q * u := by rw [← hu]; omega
  have e2 : b % (q : Int) = b + q * v := by rw [← hv]; omega
  rw [e1, e2]
  refine ⟨(u + v) * (invn q 2 : Int) + (u - v) * (invn q (x * 2 % (q : Int)) : Int) * c, ?_⟩
  grind
/-- the circles of the rounds -/
theorem cir_sq {q K : Nat} {r s : Int} (C : Fol.Cir q (2 ^ K) r s) : ∀ i, i ≤ K → Fol.Cir q (2 ^ (K - i)) (sqi q r i) (sqi q s i)
  | 0, _ => C
  | i + 1, h => by
    have C1 := cir_sq C i (by omega)
    have e : 2 ^ (K - i) = 2 * 2 ^ (K - (i + 1)) := by
      rw [show K - i = (K - (i + 1)) + 1 from by omega, Nat.pow_succ]; omega
    rw [e] at C1
    exact C1.half
/-- the words of the rounds are values of polynomials, each half as long -/
theorem mks_low {q n K J : Nat} {r s : Int} {word D : List Int} (C : Fol.Cir q (2 ^ K) r s) (hJ : J ≤ K) (f : Nat → Int) (hf : ∀ j, j < 2 ^ K → (q : Int) ∣ zat word j - Pol.ps f (Dom.pt q s r j) (2 ^ J)) :
    ∀ i, i ≤ J → ∃ g : Nat → Int, ∀ j, j < 2 ^ (K - i) → (q : Int) ∣ zat (mks q n K r s word D i).1 j - Pol.ps g (Dom.pt q (sqi q s i) (sqi q r i) j) (2 ^ (J - i))
  | 0, _ => ⟨f, hf⟩
  | i + 1, h => by
    obtain ⟨g, hg⟩ := mks_low C hJ f hf i (by omega)
    have C1 := cir_sq C i (by omega)
    have e : 2 ^ (K - i) = 2 * 2 ^ (K - i - 1) := by
      rw [show K - i = (K - i - 1) + 1 from by omega, Nat.pow_succ, Nat.add_sub_cancel]; omega
    have e2 : 2 ^ (J - i) = 2 * 2 ^ (J - (i + 1)) := by
      rw [show J - i = (J - (i + 1)) + 1 from by omega, Nat.pow_succ]; omega
    rw [e] at C1
    rw [e, e2] at hg
    refine ⟨Fol.evod g (zat (mks q n K r s word D (i + 1)).2 0), fun j hj => ?_⟩
    rw [show K - (i + 1) = K - i - 1 from by omega] at hj
    exact C1.fold_vals g (2 ^ (J - (i + 1))) (mks q n K r s word D i).1 hg (zat (mks q n K r s word D (i + 1)).2 0) hj
theorem two_nd {q K i : Nat} (h : ¬ (q : Int) ∣ ((2 ^ K : Nat) : Int)) (hi : i ≤ K) : ¬ (q : Int) ∣ ((2 ^ i : Nat) : Int) := fun hd => h (by
  rw [show K = i + (K - i) from by omega, Nat.pow_add]
  rw [Int.natCast_mul]
  exact Int.dvd_mul_of_dvd_left hd)
/-- the last polynomial is short -/
theorem bk_short {q N M : Nat} {r s : Int} (C : Fol.Cir q N r s) (hn : ¬ (q : Int) ∣ (N : Int)) (hM : M ≤ N) (zs : List Int) (g : Nat → Int) (hg : ∀ j, j < N → (q : Int) ∣ zat zs j - Pol.ps g (Dom.pt q s r j) M) : (bk q N r s zs).length ≤ M := by
  obtain ⟨f, hf⟩ : ∃ f : Nat → Int, f = fun j => if j < M then g j else 0 := ⟨_, rfl⟩
  have e : ∀ x, Pol.ps f x N = Pol.ps g x M := fun x => by
    rw [Dom.ps_stay f x M N hM (fun j hj => by rw [hf]; simp; omega)]
    have h0 := Pol.ps_congr (p := 0) (f := f) (g := g) x M (fun j hj => by rw [hf]; simp [hj])
    have h1 : Pol.ps f x M - Pol.ps g x M = 0 := by simpa using h0
    omega
  refine (C.bk_low hn zs f (fun j hj => by rw [e]; exact hg j hj) M).2 (fun j h1 h2 => ?_)
  rw [hf]
  simp only []
  rw [if_neg (by omega)]
  exact Int.dvd_zero _
theorem mkl_low {q n K J m : Nat} {r s : Int} {word D : List Int} (C : Fol.Cir q (2 ^ K) r s) (hn : ¬ (q : Int) ∣ ((2 ^ K : Nat) : Int)) (hJ : J ≤ K) (hm : m ≤ J) (f : Nat → Int) (hf : ∀ j, j < 2 ^ K → (q : Int) ∣ zat word j - Pol.ps f (Dom.pt q s r j) (2 ^ J)) : (mkl q n K r s word D m).length ≤ 2 ^ (J - m) := by
  obtain ⟨g, hg⟩ := mks_low (n := n) (D := D) C hJ f hf m hm
  exact bk_short (cir_sq C m (by omega)) (two_nd hn (by omega)) (Nat.pow_le_pow_right (by omega) (by omega)) _ g hg

/-- the numbers of a row that is shown -/
theorem mko_row {q n K m a i : Nat} {r s : Int} {word D : List Int} (hw : word.length = 2 ^ K) (hi : i < K) {x : Nat} (hx : (x : Int) ∈ mdz (mkA q n K r s word D m a) (2 ^ (K - i - 1))) (e : Nat) (he : e < 2) :
    zat (rw5 (mko q n K r s word D m a i) x) e = zat (mks q n K r s word D i).1 (x + e * 2 ^ (K - i - 1)) % (q : Int) % (q : Int) := by
  have hps : (mko q n K r s word D m a i).ps = mdz (mkA q n K r s word D m a) (2 ^ (K - i - 1)) := rfl
  have hrw : (mko q n K r s word D m a i).rows = shw q (mkt q n K r s word D i) (mko q n K r s word D m a i).ps := rfl
  unfold rw5
  rw [hrw, hps]
  obtain ⟨h1, h2⟩ := fx_in (onc_is _).1 hx
  change fx (mdz _ _) _ < (mdz _ _).length at h1
  change zat (mdz _ _) (fx (mdz _ _) _) = _ at h2
  rw [rat_shw h1, h2, Int.toNat_natCast]
  have hb := mdz_in (Nat.two_pow_pos _) _ hx
  have hxl : x < 2 ^ (K - i - 1) := by omega
  have hlen : (mks q n K r s word D i).1.length / 2 = 2 ^ (K - i - 1) := by
    have := mkt_len (q := q) (n := n) (r := r) (s := s) (D := D) hw hi
    rw [mkt, prs5_len] at this
    exact this
  rw [mkt, prs5_rat (by rw [hlen]; exact hxl), hlen]
  unfold elr
  rw [ls_at _ _ _ (by simpa using he)]
  have : e = 0 ∨ e = 1 := by omega
  rcases this with rfl | rfl
  · simp [zat]
  · simp [zat]
/-- a round's word is that of the one before, folded -/
theorem mks_next {q n K i x : Nat} {r s : Int} {word D : List Int} (hx : x < 2 ^ (K - i - 1)) :
    zat (mks q n K r s word D (i + 1)).1 x = Fol.pairz q (Dom.pt q (sqi q s i) (sqi q r i) x) (zat (mks q n K r s word D i).1 x) (zat (mks q n K r s word D i).1 (x + 2 ^ (K - i - 1))) (zat (mks q n K r s word D (i + 1)).2 0) := by
  rw [mks]
  exact Fol.foldz_at hx
theorem mks_small {q n K i x : Nat} {r s : Int} {word D : List Int} (h3 : 3 ≤ q) (hx : x < 2 ^ (K - i - 1)) : zat (mks q n K r s word D (i + 1)).1 x % (q : Int) = zat (mks q n K r s word D (i + 1)).1 x := by
  rw [mks_next hx]
  have := Fol.pairz_bounds q (Dom.pt q (sqi q s i) (sqi q r i) x) (zat (mks q n K r s word D i).1 x) (zat (mks q n K r s word D i).1 (x + 2 ^ (K - i - 1))) (zat (mks q n K r s word D (i + 1)).2 0) h3
  exact Int.emod_eq_of_lt this.1 this.2

/-- Check takes it -/
theorem mk_shown {q n K J a : Nat} {r s : Int} {word D : List Int} (C : Fol.Cir q (2 ^ K) r s) (hn : ¬ (q : Int) ∣ ((2 ^ K : Nat) : Int)) (hK : K ≤ 16) (hJ : J + 1 ≤ K) (hw : word.length = 2 ^ K) (f : Nat → Int) (hf : ∀ j, j < 2 ^ K → (q : Int) ∣ zat word j - Pol.ps f (Dom.pt q s r j) (2 ^ J)) :
    CkP q n K J r s (mkR q n K r s word D (J - 2)) (mkl q n K r s word D (J - 2)) (mkO q n K r s word D (J - 2) a) D a := by
  have h3 := C.h3
  have hin : ∀ (i j : Nat), i < J - 2 → j < a → ((((zat (mkA q n K r s word D (J - 2) a) j).toNat % 2 ^ (K - i - 1) : Nat)) : Int) ∈ mdz (mkA q n K r s word D (J - 2) a) (2 ^ (K - i - 1)) := fun i j hi hj => by
    have hl : (mkA q n K r s word D (J - 2) a).length = a := ckA_len _ _ _ _ _ _ _ _
    unfold mdz
    refine ((onc_is _).2 _).2 (List.mem_map.2 ⟨zat (mkA q n K r s word D (J - 2) a) j, ?_, ?_⟩)
    · have : j < (mkA q n K r s word D (J - 2) a).length := by rw [hl]; exact hj
      simp [zat, this]
    · have hb : 0 ≤ zat (mkA q n K r s word D (J - 2) a) j := by
        unfold mkA ckA
        rw [ls_at _ _ _ hj]
        exact (plz_bounds (by have := Nat.pow_le_pow_right (show 0 < 2 by omega) (show 1 ≤ K by omega); omega) _ _).1
      rw [Int.natCast_emod, Int.toNat_of_nonneg hb]
  refine ⟨mkO_len _ _ _ _ _ _ _ _ _, Nat.le_trans (tpn_le _ _ _) (mkl_low C hn (by omega) (by omega) f hf), fun i hi => ?_, fun j hj => ?_⟩
  · have hlt := mkt_len (q := q) (n := n) (r := r) (s := s) (D := D) hw (show i < K by omega)
    rw [mkO_onat hi, mkR_rat hi]
    unfold shz5
    have hps : (mko q n K r s word D (J - 2) a i).ps = mdz (mkA q n K r s word D (J - 2) a) (2 ^ (K - i - 1)) := rfl
    have hrw : (mko q n K r s word D (J - 2) a i).rows = shw q (mkt q n K r s word D i) (mko q n K r s word D (J - 2) a i).ps := rfl
    have hnd : (mko q n K r s word D (J - 2) a i).nodes = ndf q n (mkt q n K r s word D i).length (mkt q n K r s word D i) (mko q n K r s word D (J - 2) a i).ps 0 := rfl
    have hasc : AscN ((mkt q n K r s word D i).length : Int) (mko q n K r s word D (J - 2) a i).ps := by
      rw [hps]
      refine ascN_once (onc_is _) (fun x hx => ?_)
      obtain ⟨y, _, rfl⟩ := List.mem_map.1 hx
      rw [hlt]
      have hp := Nat.two_pow_pos (K - i - 1)
      exact ⟨Int.emod_nonneg _ (by omega), Int.emod_lt_of_pos _ (by omega)⟩
    have hc := chk_shown h3 n (mkt q n K r s word D i) (mko q n K r s word D (J - 2) a i).ps (by rw [hlt]; exact Nat.two_pow_pos _) (by rw [hlt]; exact Nat.le_trans (Nat.pow_le_pow_right (by omega) (show K - i - 1 ≤ 16 by omega)) (by decide)) hasc
    rw [hlt] at hc
    rw [Bool.and_eq_true, Bool.and_eq_true, decide_eq_true_eq, decide_eq_true_eq]
    refine ⟨⟨rfl, fun k hk => ?_⟩, ?_⟩
    · rw [hrw] at hk ⊢
      rw [shw_len] at hk
      rw [rat_shw hk, elr]
      rw [ls_len]
      have hz := hasc k hk
      rw [hlt] at hz
      have hz2 : (zat (mko q n K r s word D (J - 2) a i).ps k).toNat < (mks q n K r s word D i).1.length / 2 := by
        rw [mkt, prs5_len] at hlt
        rw [hlt]
        omega
      rw [mkt, prs5_rat hz2]
      rfl
    · rw [hrw, hnd, mkr, hlt]
      exact hc
  · unfold pthz
    rw [decide_eq_true_eq, ls_len]
    intro i hi
    obtain ⟨x, hx⟩ : ∃ x, x = (zat (mkA q n K r s word D (J - 2) a) j).toNat := ⟨_, rfl⟩
    have hin1 := hin i j hi hj
    rw [← hx] at hin1
    change pxz q K r s _ _ (zat (mkA q n K r s word D (J - 2) a) j).toNat i = pyz q K r s _ _ _ (zat (mkA q n K r s word D (J - 2) a) j).toNat i
    rw [← hx]
    have hN := Nat.two_pow_pos (K - i - 1)
    have hxN : x % 2 ^ (K - i - 1) < 2 ^ (K - i - 1) := Nat.mod_lt _ hN
    have hck : ckr q n (mkR q n K r s word D (J - 2)) D i = zat (mks q n K r s word D (i + 1)).2 0 := by
      unfold ckr
      rw [mks_ckD (i + 1) (by omega)]
    unfold pxz pyz
    rw [mkO_onat hi, ls_at _ _ _ hi, mko_row hw (by omega) hin1 0 (by omega), mko_row hw (by omega) hin1 1 (by omega), Int.emod_emod, Int.emod_emod, pairz_mod (by omega), Nat.zero_mul, Nat.add_zero, Nat.one_mul, hck, ← mks_next hxN]
    by_cases h : i + 1 < J - 2
    · have hin2 := hin (i + 1) j h hj
      rw [← hx] at hin2
      rw [if_pos h, mkO_onat h, show K - i - 2 = K - (i + 1) - 1 from by omega]
      have hNN : 2 ^ (K - i - 1) = 2 * 2 ^ (K - (i + 1) - 1) := by
        rw [show K - i - 1 = (K - (i + 1) - 1) + 1 from by omega, Nat.pow_succ]; omega
      have hN' := Nat.two_pow_pos (K - (i + 1) - 1)
      obtain ⟨N', hN'e⟩ : ∃ N', N' = 2 ^ (K - (i + 1) - 1) := ⟨_, rfl⟩
      have he : x % 2 ^ (K - i - 1) / 2 ^ (K - (i + 1) - 1) < 2 := by
        rw [hNN]
        exact Nat.div_lt_of_lt_mul (by rw [Nat.mul_comm]; exact Nat.mod_lt _ (by omega))
      rw [mko_row hw (by omega) hin2 _ he, Int.emod_emod, Int.emod_emod]
      have hp : x % 2 ^ (K - (i + 1) - 1) + x % 2 ^ (K - i - 1) / 2 ^ (K - (i + 1) - 1) * 2 ^ (K - (i + 1) - 1) = x % 2 ^ (K - i - 1) := by
        have h1 : x % 2 ^ (K - i - 1) % 2 ^ (K - (i + 1) - 1) = x % 2 ^ (K - (i + 1) - 1) := by
          rw [hNN]
          exact Nat.mod_mod_of_dvd _ ⟨2, by omega⟩
        rw [← h1]
        have := Nat.mod_add_div (x % 2 ^ (K - i - 1)) (2 ^ (K - (i + 1) - 1))
        rw [Nat.mul_comm] at this
        exact this
      rw [hp, mks_small h3 hxN]
    · rw [if_neg h]
      have hm : i + 1 = J - 2 := by omega
      have hev := evz_coefs (p := q) C.pr h3 (mks q n K r s word D (i + 1)).1 (cir_sq C (i + 1) (by omega)).ord (cir_sq C (i + 1) (by omega)).sd (two_nd hn (by omega)) (x % 2 ^ (K - i - 1)) (by rw [show K - (i + 1) = K - i - 1 from by omega]; exact hxN)
      rw [← hm]
      unfold mkl bk
      rw [hev, mks_small h3 hxN]

end Go.Proofs.YtgcjpddpolaofahGreat
