/- Plain facts on Part: with no variables fixed it is what the layer's values extend to; what a variable more makes of it. Package gates: Part of anything; Values of a circuit of one gate. -/
import Derived.Test.YtaapbopcfpihbaaDoorGlAK
import Derived.Test.YtaapbopcfpihbaaDoorGtS
namespace Go.Proofs.YtaapbopcfpihbaaDoor
open Go.RowKit

theorem ptt_eq {p n i : Nat} {gs : List GatZ} {t z xs : List Int} (ht : t.length = 2 ^ n) (hl : xs.length ≤ 2 * n) : ptt p gs t n z xs i = Sum.wgt (zat z) z.length i * Sum.prz (gfac n (gat gs i).a.toNat (gat gs i).b.toNat xs) xs.length * jnz p (gat gs i).kind (Sum.ext (zat t) (xpt n (gat gs i).a.toNat (gat gs i).b.toNat xs) n) (Sum.ext (zat t) (fun j => xpt n (gat gs i).a.toNat (gat gs i).b.toNat xs (n + j)) n) := by
  have e1 : ∀ x y : Int, jnz p (gat gs i).kind (x % (p : Int)) (y % (p : Int)) = jnz p (gat gs i).kind x y := fun x y => jnz_congr (Pol.emod_dvd p x) (Pol.emod_dvd p y)
  rw [← e1, jnz_congr (x_dvd (A := (gat gs i).a.toNat) (B := (gat gs i).b.toNat) (xs := xs) ht) (y_dvd (A := (gat gs i).a.toNat) (B := (gat gs i).b.toNat) (xs := xs) ht hl), prz_gfac hl]
  unfold ptt
  rw [← Int.mul_assoc]
theorem zat_app_lo {xs : List Int} {b : Int} {j : Nat} (h : j < xs.length) : zat (xs ++ [b]) j = zat xs j := by simp [zat, List.getElem?_append_left h]
theorem zat_app_at (xs : List Int) (b : Int) : zat (xs ++ [b]) xs.length = b := by simp [zat]
theorem abz_01 (n A B k : Nat) : abz n A B k = 0 ∨ abz n A B k = 1 := by
  unfold abz bitz
  split <;> omega
/-- a variable more that is the gate's own bit makes no difference -/
theorem ptt_own {p n i : Nat} {gs : List GatZ} {t z xs : List Int} {b : Int} (ht : t.length = 2 ^ n) (hl : xs.length + 1 ≤ 2 * n) (hb : abz n (gat gs i).a.toNat (gat gs i).b.toNat xs.length = b) : ptt p gs t n z (xs ++ [b]) i = ptt p gs t n z xs i := by
  rw [ptt_eq ht (by rw [List.length_append]; exact hl), ptt_eq ht (by omega)]
  have e0 : (xs ++ [b]).length = xs.length + 1 := by simp
  rw [e0, Sum.prz]
  have e1 : Sum.prz (gfac n (gat gs i).a.toNat (gat gs i).b.toNat (xs ++ [b])) xs.length = Sum.prz (gfac n (gat gs i).a.toNat (gat gs i).b.toNat xs) xs.length := Sum.prz_same (fun k hk => by unfold gfac; rw [zat_app_lo hk])
  have e2 : gfac n (gat gs i).a.toNat (gat gs i).b.toNat (xs ++ [b]) xs.length = 1 := by
    unfold gfac
    rw [zat_app_at, hb]
    rcases abz_01 n (gat gs i).a.toNat (gat gs i).b.toNat xs.length with h | h
    · rw [hb] at h; rw [h]; rfl
    · rw [hb] at h; rw [h]; rfl
  have e3 : ∀ j, xpt n (gat gs i).a.toNat (gat gs i).b.toNat (xs ++ [b]) j = xpt n (gat gs i).a.toNat (gat gs i).b.toNat xs j := fun j => by
    unfold xpt
    rw [e0]
    by_cases h : j < xs.length
    · rw [if_pos h, if_pos (by omega), zat_app_lo h]
    · rw [if_neg h]
      by_cases h2 : j = xs.length
      · subst h2
        rw [if_pos (by omega), zat_app_at, hb]
      · rw [if_neg (by omega)]
  rw [e1, e2, Int.mul_one]
  rw [Sum.ext_same (u := zat t) (bt := xpt n (gat gs i).a.toNat (gat gs i).b.toNat xs) (fun _ _ => rfl) (fun j _ => e3 j), Sum.ext_same (u := zat t) (bt := fun j => xpt n (gat gs i).a.toNat (gat gs i).b.toNat xs (n + j)) (fun _ _ => rfl) (fun j _ => e3 (n + j))]
/-- a variable more that is the other bit leaves nothing -/
theorem ptt_other {p n i : Nat} {gs : List GatZ} {t z xs : List Int} {b : Int} (ht : t.length = 2 ^ n) (hl : xs.length + 1 ≤ 2 * n) (hb : abz n (gat gs i).a.toNat (gat gs i).b.toNat xs.length = 1 - b) : ptt p gs t n z (xs ++ [b]) i = 0 := by
  rw [ptt_eq ht (by rw [List.length_append]; exact hl)]
  have e0 : (xs ++ [b]).length = xs.length + 1 := by simp
  rw [e0, Sum.prz]
  have e2 : gfac n (gat gs i).a.toNat (gat gs i).b.toNat (xs ++ [b]) xs.length = 0 := by
    unfold gfac
    rw [zat_app_at, hb]
    rcases abz_01 n (gat gs i).a.toNat (gat gs i).b.toNat xs.length with h | h
    · rw [hb] at h; rw [if_pos h]; exact h
    · rw [hb] at h; rw [if_neg (by omega)]; omega
  rw [e2, Int.mul_zero, Int.mul_zero, Int.zero_mul]
theorem ptt_two {p n i : Nat} {gs : List GatZ} {t z xs : List Int} (ht : t.length = 2 ^ n) (hl : xs.length + 1 ≤ 2 * n) : ptt p gs t n z xs i = ptt p gs t n z (xs ++ [0]) i + ptt p gs t n z (xs ++ [1]) i := by
  rcases abz_01 n (gat gs i).a.toNat (gat gs i).b.toNat xs.length with h | h
  · rw [ptt_own ht hl h, ptt_other (b := 1) ht hl (by rw [h]; rfl), Int.add_zero]
  · rw [ptt_own (b := 1) ht hl h, ptt_other (b := 0) ht hl (by rw [h]; rfl), Int.zero_add]
theorem sm_plus (f g : Nat → Int) : ∀ n, Dom.sm (fun i => f i + g i) n = Dom.sm f n + Dom.sm g n
  | 0 => rfl
  | n + 1 => by rw [Dom.sm, Dom.sm, Dom.sm, sm_plus f g n]; omega
/-- each variable that is fixed makes of a layer's sum what its two sides make -/
theorem ptz_two {p n : Nat} {gs : List GatZ} {t z xs : List Int} (ht : t.length = 2 ^ n) (hl : xs.length + 1 ≤ 2 * n) : ptz p gs t n z xs = (ptz p gs t n z (xs ++ [0]) + ptz p gs t n z (xs ++ [1])) % (p : Int) := by
  unfold ptz
  rw [← Int.add_emod, ← sm_plus]
  congr 1
  exact Dom.sm_same (fun i _ => ptt_two ht hl)
/-- a layer is the sum over its wires -/
theorem ptz_nil {p n : Nat} {gs : List GatZ} {t z : List Int} (hg : gs.length = 2 ^ z.length) (ho : ∀ k, k < gs.length → (gat gs k).a.toNat < 2 ^ n ∧ (gat gs k).b.toNat < 2 ^ n) : ptz p gs t n z [] = Sum.ext (zat (gvl p t gs)) (zat z) z.length % (p : Int) := by
  unfold ptz Sum.ext
  rw [← hg]
  congr 1
  refine Dom.sm_same (fun i hi => ?_)
  unfold ptt gvl
  obtain ⟨h1, h2⟩ := ho i hi
  have w0 : ∀ (f : Nat → Int) j, Sum.wgt f 0 j = 1 := fun f j => by simp [Sum.wgt, Sum.prz]
  simp only [List.length_nil, Nat.zero_min, Nat.sub_zero, w0, Int.mul_one, fxs]
  rw [Nat.mod_eq_of_lt h1, Nat.mod_eq_of_lt h2, ls_at _ _ _ hi, Int.mul_comm]

end Go.Proofs.YtaapbopcfpihbaaDoor

namespace Go.Proofs.YtaapbopcfpihbaaDoor
open Go.RowKit

/-- Part: what is wrong -/
noncomputable def pte (wide : Int) (lys : List (List GatZ)) (ni : Nat) (layer : Int) (nz nx : Nat) : Int := if vle wide lys ni = 0 then (if 0 ≤ layer ∧ layer < (lys.length : Int) then (if nz = bnn wide lys (layer.toNat + 1) ∧ nx ≤ 2 * bnn wide lys layer.toNat then 0 else 2) else 3) else vle wide lys ni
/-- Part: what it gives -/
noncomputable def ptv (p : Nat) (wide : Int) (lys : List (List GatZ)) (inputs : List Int) (layer : Int) (z xs : List Int) : Int := if pte wide lys inputs.length layer z.length xs.length = 0 then ptz p (lyt lys layer.toNat) (gvs p lys inputs layer.toNat) (bnn wide lys layer.toNat) z xs else 0
theorem pte_zero {wide : Int} {lys : List (List GatZ)} {ni nz nx : Nat} {layer : Int} (h : pte wide lys ni layer nz nx = 0) : vle wide lys ni = 0 ∧ (0 ≤ layer ∧ layer < (lys.length : Int)) ∧ nz = bnn wide lys (layer.toNat + 1) ∧ nx ≤ 2 * bnn wide lys layer.toNat := by
  unfold pte at h
  by_cases h1 : vle wide lys ni = 0
  · rw [if_pos h1] at h
    by_cases h2 : 0 ≤ layer ∧ layer < (lys.length : Int)
    · rw [if_pos h2] at h
      by_cases h3 : nz = bnn wide lys (layer.toNat + 1) ∧ nx ≤ 2 * bnn wide lys layer.toNat
      · exact ⟨h1, h2, h3⟩
      · rw [if_neg h3] at h; omega
    · rw [if_neg h2] at h; omega
  · rw [if_neg h1] at h; exact absurd h h1
theorem ptv_bounds {p : Nat} (h3 : 3 ≤ p) (wide : Int) (lys : List (List GatZ)) (inputs : List Int) (layer : Int) (z xs : List Int) : 0 ≤ ptv p wide lys inputs layer z xs ∧ ptv p wide lys inputs layer z xs < p := by
  unfold ptv
  split
  · exact emod_bounds _ p h3
  · omega
theorem part_all (p b cL ci cz cx : Nat) (wide layer : Int) (aL ai az ax : Option Addr) (lys : List (List GatZ)) (inputs z xs : List Int) (w : World) (hIT : InT p b w) (hB : CirB lys) (hl : LstGG w.heap.size w aL cL lys) (hin : Lst w.heap.size w ai ci inputs) (hfi : Fits inputs) (fz : Fits z) (fx : Fits xs) (rz : RowB w.heap.size w az z) (lx : Lst w.heap.size w ax cx xs) :
    Calls Tryd.prog 16 #[.pointer (some ⟨b, 0, none⟩), .agg #[.int .i64 wide, .slice aL lys.length cL], .int .i64 layer, .slice ai inputs.length ci, .slice az z.length cz, .slice ax xs.length cx] w fun e w' => e = .returned (.tuple #[.int .i64 (ptv p wide lys inputs layer z xs), errz (pte wide lys inputs.length layer z.length xs.length)]) ∧ Below w.heap.size w w' := by
  by_cases h1 : vle wide lys inputs.length = 0
  · by_cases h2 : 0 ≤ layer ∧ layer < (lys.length : Int)
    · obtain ⟨i, rfl⟩ := Int.eq_ofNat_of_zero_le h2.1
      have hi : i < lys.length := by have := h2.2; omega
      by_cases h3 : z.length = bnn wide lys (i + 1) ∧ xs.length ≤ 2 * bnn wide lys i
      · have hp : pte wide lys inputs.length (i : Int) z.length xs.length = 0 := by unfold pte; rw [if_pos h1, if_pos h2, Int.toNat_natCast, if_pos h3]
        have hv : ptv p wide lys inputs (i : Int) z xs = ptz p (lyt lys i) (gvs p lys inputs i) (bnn wide lys i) z xs := by unfold ptv; rw [if_pos hp, Int.toNat_natCast]
        rw [hp, hv]
        exact partY_any p b i cL ci cz cx wide aL ai az ax lys inputs z xs w hIT hB hl hin hfi h1 hi h3.1 h3.2 fz fx rz lx
      · have hp : pte wide lys inputs.length (i : Int) z.length xs.length = 2 := by unfold pte; rw [if_pos h1, if_pos h2, Int.toNat_natCast, if_neg h3]
        have hv : ptv p wide lys inputs (i : Int) z xs = 0 := by unfold ptv; rw [hp]; rfl
        rw [hp, hv]
        exact partS_any p b i z.length xs.length cL ci cz cx wide aL ai az ax lys inputs w hIT hB hl hin hfi h1 hi h3
    · have hp : pte wide lys inputs.length layer z.length xs.length = 3 := by unfold pte; rw [if_pos h1, if_neg h2]
      have hv : ptv p wide lys inputs layer z xs = 0 := by unfold ptv; rw [hp]; rfl
      rw [hp, hv]
      exact partR_any p b z.length xs.length cL ci cz cx wide layer aL ai az ax lys inputs w hIT hB hl hin hfi h1 h2
  · have hp : pte wide lys inputs.length layer z.length xs.length = vle wide lys inputs.length := by unfold pte; rw [if_neg h1]
    have hv : ptv p wide lys inputs layer z xs = 0 := by unfold ptv; rw [hp, if_neg h1]
    rw [hp, hv]
    exact partF_any p b z.length xs.length cL ci cz cx wide layer aL ai az ax lys inputs w hIT hB hl hin hfi h1

/-- a circuit of one gate -/
def oneL : List (List GatZ) := [[⟨1, 0, 0⟩]]
theorem one_flt : flt 0 oneL = 0 := by
  have hS : SzC 0 oneL := ⟨⟨by decide, by decide⟩, ⟨by decide, by decide⟩, fun k hk => by
    obtain rfl : k = 0 := by simp [oneL] at hk; exact hk
    decide⟩
  have hG : GtC 0 oneL := fun i hi k hk => by
    obtain rfl : i = 0 := by simp [oneL] at hi; exact hi
    obtain rfl : k = 0 := by simp [oneL, lyt] at hk; exact hk
    decide
  unfold flt
  rw [if_pos hS, if_pos hG]
theorem one_vle : vle 0 oneL 1 = 0 := by unfold vle; rw [if_pos one_flt]; rfl
theorem one_gvs {p : Nat} (h3 : 3 ≤ p) : gvs p oneL [1] 1 = [1] := by
  have e : (1 : Int) % (p : Int) = 1 := Int.emod_eq_of_lt (by omega) (by omega)
  show ls (fun i => jnz p (gat [⟨1, 0, 0⟩] i).kind (zat (ls (fun i => zat [1] i % (p : Int)) 1) (gat [⟨1, 0, 0⟩] i).a.toNat) (zat (ls (fun i => zat [1] i % (p : Int)) 1) (gat [⟨1, 0, 0⟩] i).b.toNat)) 1 = [1]
  simp [ls, gat, zat, jnz, e]

/-- the world in which a circuit of one gate, and its one input, are laid -/
def oneW (W : World) : World := ((W.alloc (.cells #[.int .i64 1, .int .i64 0, .int .i64 0] 49)).alloc (.cells #[.slice (some ⟨W.heap.size, 0, none⟩) 1 1] 41)).alloc (.cells #[.int .i64 1] 3)
theorem oneW_below (W : World) : Below W.heap.size W (oneW W) := (((Below.refl _ _).alloc (Nat.le_refl _) _).alloc (by simp) _).alloc (by simp; omega) _
theorem oneW_lst (W : World) : LstGG (oneW W).heap.size (oneW W) (some ⟨W.heap.size + 1, 0, none⟩) 1 oneL ∧ Lst (oneW W).heap.size (oneW W) (some ⟨W.heap.size + 2, 0, none⟩) 1 [1] := by
  obtain ⟨W1, h1⟩ : ∃ W1, W1 = W.alloc (.cells #[.int .i64 1, .int .i64 0, .int .i64 0] 49) := ⟨_, rfl⟩
  obtain ⟨W2, h2⟩ : ∃ W2, W2 = W1.alloc (.cells #[.slice (some ⟨W.heap.size, 0, none⟩) 1 1] 41) := ⟨_, rfl⟩
  obtain ⟨W3, h3⟩ : ∃ W3, W3 = W2.alloc (.cells #[.int .i64 1] 3) := ⟨_, rfl⟩
  obtain ⟨b1, s1, z1⟩ := own_blk h1
  obtain ⟨b2, s2, z2⟩ := own_blk h2
  obtain ⟨b3, s3, z3⟩ := own_blk h3
  have e : oneW W = W3 := by rw [h3, h2, h1]; rfl
  rw [e]
  have t1 := ((b3.block W.heap.size (by omega)).trans (b2.block W.heap.size (by omega))).trans s1
  have t2 := (b3.block W1.heap.size (by omega)).trans s2
  rw [z1] at t2
  rw [z2, z1] at s3
  refine ⟨⟨fun k hk => ?_, by simp [oneL], fun h => by cases h⟩, ⟨fun k hk => ?_, by simp, fun h => by cases h⟩⟩
  · obtain rfl : k = 0 := by simp [oneL] at hk; exact hk
    refine ⟨W.heap.size + 1, 0, some ⟨W.heap.size, 0, none⟩, 1, rfl, by omega, by simp [World.cell?, t2, oneL, lyt], fun j hj => ?_, by simp [oneL, lyt], fun h => by cases h⟩
    obtain rfl : j = 0 := by simp [oneL, lyt] at hj; exact hj
    exact ⟨W.heap.size, 0, rfl, by omega, by simp [World.cell?, t1, oneL, lyt, gat], by simp [World.cell?, t1, oneL, lyt, gat], by simp [World.cell?, t1, oneL, lyt, gat]⟩
  · obtain rfl : k = 0 := by simp at hk; exact hk
    exact ⟨W.heap.size + 2, 0, rfl, by omega, by simp [World.cell?, s3, zat]⟩
theorem one_cir : CirB oneL := by
  refine ⟨by simp [oneL], fun k hk => ?_, fun k hk => ?_⟩
  · obtain rfl : k = 0 := by simp [oneL] at hk; exact hk
    simp [oneL, lyt]
  · obtain rfl : k = 0 := by simp [oneL] at hk; exact hk
    intro j hj
    obtain rfl : j = 0 := by simp [oneL, lyt] at hj; exact hj
    simp [oneL, lyt, gat, i64B]
theorem one_values (p b : Nat) (W : World) (hIT : InT p b W) :
    Calls Tryd.prog 7 #[.pointer (some ⟨b, 0, none⟩), .agg #[.int .i64 0, .slice (some ⟨W.heap.size + 1, 0, none⟩) 1 1], .slice (some ⟨W.heap.size + 2, 0, none⟩) 1 1] (oneW W) fun e w' => ∃ b2 o2 c2 b3 o3 c3, e = .returned (.tuple #[.slice (some ⟨b2, o2, none⟩) 2 c2, .nilIface]) ∧ w'.cell? ⟨b2, o2 + 1, none⟩ = some (.slice (some ⟨b3, o3, none⟩) 1 c3) ∧ w'.cell? ⟨b3, o3, none⟩ = some (.int .i64 1) ∧ Below W.heap.size W w' := by
  obtain ⟨h1, h2⟩ := oneW_lst W
  refine (gatesValues_any p b 1 1 0 (some ⟨W.heap.size + 1, 0, none⟩) (some ⟨W.heap.size + 2, 0, none⟩) oneL [1] (oneW W) (hIT.below (oneW_below W)) one_cir h1 h2 (fun j hj => by
    obtain rfl : j = 0 := by simp at hj; exact hj
    simp [zat])).mono ?_
  rintro e w' ⟨v, rfl, ho, hb⟩
  have hg : gvr p 0 oneL [1] = gva p oneL [1] 2 := by unfold gvr; rw [show ([1] : List Int).length = 1 from rfl, if_pos one_vle]; rfl
  rw [hg] at ho
  obtain ⟨a, c, rfl, hl⟩ := ho.lst
  rw [gva_len] at *
  obtain ⟨b2, o2, ak, ck, rfl, e2, e3, e4⟩ := hl.row 1 (by rw [gva_len]; omega)
  rw [gva_rat (by omega), one_gvs hIT.h3] at e3 e4
  obtain ⟨b3, o3, rfl, e5, e6⟩ := e4.row 0 (by simp)
  refine ⟨b2, o2, c, b3, o3, ck, ?_, e3, ?_, (oneW_below W).trans (hb.mono (oneW_below W).size)⟩
  · rw [show ([1] : List Int).length = 1 from rfl, one_vle]
    rfl
  · simpa [zat] using e6

end Go.Proofs.YtaapbopcfpihbaaDoor
