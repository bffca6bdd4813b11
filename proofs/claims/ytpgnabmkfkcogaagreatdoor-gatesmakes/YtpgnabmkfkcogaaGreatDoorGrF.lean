/- The reference of package gates: Part. -/
import Derived.Test.YtpgnabmkfkcogaaGreatDoorGtR
import Derived.Test.YtpgnabmkfkcogaaGreatDoorGmAX
import Derived.Test.YtpgnabmkfkcogaaGreatDoorGmAY
import Derived.Test.YtpgnabmkfkcogaaGreatDoorRefs
namespace Go.Proofs.YtpgnabmkfkcogaaGreatDoor
open Go.RowKit

/-- a list of numbers in a block that may be written -/
structure RwI (g : Nat) (w : World) (l : List Int) : Prop where
  lt : g < w.heap.size
  cells : ∀ k, k < l.length → w.cell? ⟨g, k, none⟩ = some (.int .i64 (zat l k))
  soft : ∀ j, w.frozen? ⟨g, j, none⟩ = false
theorem RwI.below {g : Nat} {w w' : World} {l : List Int} (h : RwI g w l) (hb : Below w.heap.size w w') : RwI g w' l := by
  have e := hb.block g h.lt
  refine ⟨Nat.lt_of_lt_of_le h.lt hb.size, fun k hk => (World.cell?_of_block (w := w) (a := ⟨g, k, none⟩) e).trans (h.cells k hk), fun j => ?_⟩
  rw [← h.soft j]
  simp only [World.frozen?, e]
theorem RwI.set {g : Nat} {w : World} {l : List Int} (h : RwI g w l) {k : Nat} (x : Int) (hk : k < l.length) : RwI g (w.setCell ⟨g, k, none⟩ (.int .i64 x)) (l.set k x) := by
  refine ⟨by rw [World.size_setCell]; exact h.lt, fun j hj => ?_, fun j => ?_⟩
  · rw [List.length_set] at hj
    by_cases e : j = k
    · subst e
      rw [World.cell?_setCell_same _ _ _ (h.cells j hj)]
      simp [zat, hj]
    · rw [World.cell?_setCell_other _ _ _ _ (by intro e1; injection e1 with _ h2 _; omega)]
      rw [h.cells j hj]
      simp [zat, List.getElem?_set_ne (fun q => e q.symm)]
  · rw [← h.soft j]
    exact World.frozen?_setCell _ _ _ _
/-- a list that a call has laid -/
def AtS (base : Nat) (w : World) (a : Option Addr) (cap : Nat) (l : List Int) : Prop := Lst w.heap.size w a cap l ∧ (0 < l.length → ∃ g, a = some ⟨g, 0, none⟩ ∧ base ≤ g ∧ RwI g w l)
theorem AtS.below {base cap : Nat} {w w' : World} {a : Option Addr} {l : List Int} (h : AtS base w a cap l) (hb : Below w.heap.size w w') : AtS base w' a cap l :=
  ⟨(h.1.below hb).mono hb.size, fun h0 => by
    obtain ⟨g, e1, e2, e3⟩ := h.2 h0
    exact ⟨g, e1, e2, e3.below hb⟩⟩
theorem AtS.set {base cap g : Nat} {w : World} {l : List Int} (h : AtS base w (some ⟨g, 0, none⟩) cap l) {k : Nat} (x : Int) (hk : k < l.length) : AtS base (w.setCell ⟨g, k, none⟩ (.int .i64 x)) (some ⟨g, 0, none⟩) cap (l.set k x) := by
  obtain ⟨g', e1, e2, e3⟩ := h.2 (by omega)
  injection e1 with e1
  injection e1 with e1
  subst e1
  have hr := e3.set x hk
  refine ⟨⟨fun j hj => ⟨g, 0, rfl, hr.lt, by rw [Nat.zero_add]; exact hr.cells j hj⟩, by rw [List.length_set]; exact h.1.room, fun q => by cases q⟩, fun _ => ⟨g, rfl, e2, hr⟩⟩
theorem atS_of {w : World} {base : Nat} {v : Value} {zs : List Int} (h : w.ownsRow base 3 1 v zs.length (zs.map (Value.int .i64))) : ∃ a cap, v = .slice a zs.length cap ∧ AtS base w a cap zs := by
  obtain ⟨a, cap, hv, hl⟩ := lst_of_owns h
  refine ⟨a, cap, hv, hl, fun h0 => ?_⟩
  rcases h.2 with ⟨_, h2⟩ | ⟨g, cap', cur, hv', hb, hg, hn, hm, hs, ht⟩
  · omega
  · rw [hv] at hv'
    injection hv' with e1 _ _
    refine ⟨g, e1, hb, (Array.getElem?_eq_some_iff.1 hg).1, fun k hk => ?_, fun j => by simp [World.frozen?, hg]⟩
    obtain ⟨b, o, e2, _, e3⟩ := hl.row k hk
    rw [e1] at e2
    injection e2 with e2
    injection e2 with e4 e5
    subst e4
    subst e5
    rwa [Nat.zero_add] at e3

theorem ls_get (F : Nat → Int) (k j : Nat) (h : j < (ls F k).length) : (ls F k)[j] = F j := by simp [ls]
/-- bits, and elements behind the first of them -/
def xpk (n A B : Nat) (xs : List Int) (k j : Nat) : Int := if j < k then zat xs j else abz n A B j
def xpl (n A B : Nat) (xs : List Int) (k : Nat) : List Int := ls (xpk n A B xs k) (n + n)
theorem xpl_len (n A B : Nat) (xs : List Int) (k : Nat) : (xpl n A B xs k).length = n + n := ls_len _ _
theorem xpl_set {n A B : Nat} {xs : List Int} {k : Nat} : (xpl n A B xs k).set k (zat xs k) = xpl n A B xs (k + 1) := by
  unfold xpl
  apply List.ext_getElem (by simp [ls_len])
  intro j h1 h2
  rw [List.getElem_set]
  have hj : j < n + n := by rw [ls_len] at h2; exact h2
  rw [ls_get, ls_get]
  unfold xpk
  by_cases e : k = j
  · rw [if_pos e, if_pos (by omega), e]
  · rw [if_neg e]
    by_cases e2 : j < k
    · rw [if_pos e2, if_pos (by omega)]
    · rw [if_neg e2, if_neg (by omega)]
theorem abl_app (n A B : Nat) (xs : List Int) : ls (bitz n A) n ++ ls (bitz n B) n = xpl n A B xs 0 := by
  unfold xpl
  apply List.ext_getElem (by simp [ls_len])
  intro j h1 h2
  have hj : j < n + n := by rw [ls_len] at h2; exact h2
  rw [ls_get]
  show _ = abz n A B j
  unfold abz
  by_cases e : j < n
  · rw [if_pos e, List.getElem_append_left (by rw [ls_len]; exact e), ls_get]
  · rw [if_neg e, List.getElem_append_right (by rw [ls_len]; omega)]
    rw [ls_get, ls_len]
theorem xpl_end (n A B : Nat) (xs : List Int) {j : Nat} (hj : j < n + n) : zat (xpl n A B xs xs.length) j = xpt n A B xs j := by
  unfold xpl
  rw [ls_at _ _ _ hj]
  rfl
theorem bitz_fits (n A j : Nat) : 0 ≤ bitz n A j ∧ bitz n A j ≤ 1 := by
  unfold bitz
  omega
theorem abz_fits (n A B j : Nat) : 0 ≤ abz n A B j ∧ abz n A B j ≤ 1 := by
  unfold abz
  split <;> exact bitz_fits _ _ _
theorem xpl_fits {n A B : Nat} {xs : List Int} (fx : Fits xs) (k : Nat) : Fits (xpl n A B xs k) := fun j hj => by
  rw [xpl_len] at hj
  unfold xpl
  rw [ls_at _ _ _ hj]
  unfold xpk
  split
  · exact fx.all j
  · have := abz_fits n A B j
    omega
theorem mstep {p : Nat} (u : Int) (f : Nat → Int) (k : Nat) (r : Int) (h : (p : Int) ∣ r - f k) : (u * Sum.prz f k % (p : Int)) * r % (p : Int) = u * Sum.prz f (k + 1) % (p : Int) := by
  rw [Sum.prz, ← Int.mul_assoc]
  exact emod_of_dvd (Sum.dvd_mul_sub (Pol.emod_dvd p _) h)

set_option maxRecDepth 100000 in
set_option maxHeartbeats 4000000 in
theorem rpart13_any (p n cg cb cz cx : Nat) (ag ab az ax : Option Addr) (gs : List GatZ) (t z xs : List Int) (w : World) (h3 : 3 ≤ p) (hm : p ≤ 2147483647) (hn : n ≤ 6) (ht : t.length = 2 ^ n) (hgl : gs.length ≤ 64) (hg : LstG w.heap.size w ag cg gs) (ho : ∀ k, k < gs.length → ((gat gs k).kind = 0 ∨ (gat gs k).kind = 1) ∧ (0 ≤ (gat gs k).a ∧ (gat gs k).a ≤ 64) ∧ (0 ≤ (gat gs k).b ∧ (gat gs k).b ≤ 64)) (hz : z.length ≤ 6) (hgz : gs.length ≤ 2 ^ z.length) (hx : xs.length ≤ 2 * n) (ft : Fits t) (fz : Fits z) (fx : Fits xs) (lt : RowB w.heap.size w ab t) (rz : RowB w.heap.size w az z) (rx : RowB w.heap.size w ax xs) :
    Calls Tryz.prog 88 #[.int .i64 (p : Int), .slice ag gs.length cg, .slice ab t.length cb, .int .i64 (n : Int), .slice az z.length cz, .slice ax xs.length cx] w fun e w' => e = .returned (.int .i64 (ptz p gs t n z xs)) ∧ Below w.heap.size w w' := by
  obtain ⟨ng, hng⟩ : ∃ n, n = gs.length := ⟨_, rfl⟩
  have HNG := hid hng
  obtain ⟨F, hF⟩ : ∃ F : Nat → Int, F = fun k => Dom.sm (ptt p gs t n z xs) k % (p : Int) := ⟨_, rfl⟩
  have HFB : Hid (∀ k, 0 ≤ F k ∧ F k < p) := fun k => by rw [hF]; exact emod_bounds _ p h3
  have HF0 : Hid (F 0 = 0) := by unfold Hid; rw [hF]; rfl
  have HFA : Hid (∀ k (M : Int), (p : Int) ∣ M - Sum.wgt (zat z) z.length k * Sum.prz (gfac n (gat gs k).a.toNat (gat gs k).b.toNat xs) xs.length → (F k + M * jnz p (gat gs k).kind (Sum.ext (zat t) (xpt n (gat gs k).a.toNat (gat gs k).b.toNat xs) n % (p : Int)) (Sum.ext (zat t) (fun j => xpt n (gat gs k).a.toNat (gat gs k).b.toNat xs (n + j)) n % (p : Int)) % (p : Int)) % (p : Int) = F (k + 1)) := fun k M h => by rw [hF]; exact ptt_ref ht hx h
  rw [show ptz p gs t n z xs = F ng from by rw [hF, hng]; rfl]
  have HGS := hid hg
  have HOK := hid ho
  have HFX := hid fx
  have HRX := hid rx
  have HBT : Hid (∀ (I : Nat) (W : World), I ≤ 64 → Calls Tryz.prog 155 #[.int .i64 (I : Int), .int .i64 (n : Int)] W fun e w' => e = .returned (.slice (some ⟨W.heap.size, 0, none⟩) n n) ∧ Lst w'.heap.size w' (some ⟨W.heap.size, 0, none⟩) n (ls (bitz n I) n) ∧ Below W.heap.size W w') := fun I W hI => by
    refine (rbits_any I n W hn (by omega)).mono ?_
    rintro e w' ⟨h1, h2, h4⟩
    exact ⟨h1, h2.lst (ls_len _ _) (fun j hj => by rw [ls_at _ _ _ hj]) h2.lt, h4⟩
  have HUN : Hid (∀ (W : World) (i : Nat), i < ng → Below w.heap.size w W → Calls Tryz.prog 123 #[.int .i64 (p : Int), .int .i64 (i : Int), .slice az z.length cz] W fun e w' => e = .returned (.int .i64 (Sum.wgt (zat z) z.length i % (p : Int))) ∧ Below W.heap.size W w') := fun W i hi hW =>
    runit_any p i cz az z W h3 hm (by omega) (by omega) fz ((rz.below hW).mono hW.size)
  have HEX : Hid (∀ (W : World) (a : Option Addr) (c : Nat) (l : List Int), l.length = n → Fits l → Below w.heap.size w W → RowB W.heap.size W a l → Calls Tryz.prog 157 #[.int .i64 (p : Int), .slice ab t.length cb, .slice a n c] W fun e w' => e = .returned (.int .i64 (Sum.ext (zat t) (zat l) n % (p : Int))) ∧ w' = W) := fun W a c l h1 h2 hW h4 =>
    rextend_any p n cb c ab a t l W W.heap.size W.heap.size h3 hm h1 (by omega) ht ft h2 ((lt.below hW).mono hW.size) h4
  have HAD : Hid (∀ (u1 u2 : Int) (W : World), (0 ≤ u1 ∧ u1 < p) → (0 ≤ u2 ∧ u2 < p) → Calls Tryz.prog 46 #[.int .i64 (p : Int), .int .i64 u1, .int .i64 u2] W fun e w' => e = .returned (.int .i64 ((u1 + u2) % (p : Int))) ∧ w' = W) := fun u1 u2 W h1 h2 => radd_any p u1 u2 W h3 hm (by omega) (by omega) (by omega) (by omega)
  have HMU : Hid (∀ (u1 u2 : Int) (W : World), (0 ≤ u1 ∧ u1 < p) → (0 ≤ u2 ∧ u2 < p) → Calls Tryz.prog 45 #[.int .i64 (p : Int), .int .i64 u1, .int .i64 u2] W fun e w' => e = .returned (.int .i64 (u1 * u2 % (p : Int))) ∧ w' = W) := fun u1 u2 W h1 h2 => rmul_any p u1 u2 W h3 hm (by omega) (by omega) (by omega) (by omega)
  have HOF : Hid (∀ (u : Int) (W : World), -9223372036854775808 ≤ u → u ≤ 9223372036854775807 → Calls Tryz.prog 48 #[.int .i64 (p : Int), .int .i64 u] W fun e w' => e = .returned (.int .i64 (u % (p : Int))) ∧ w' = W) := fun u W h1 h2 => rof_any p u W h3 hm h1 h2
  have HSU : Hid (∀ (u : Int) (W : World), -9223372036854775808 ≤ u → u ≤ 9223372036854775807 → Calls Tryz.prog 156 #[.int .i64 (p : Int), .int .i64 1, .int .i64 u] W fun e w' => e = .returned (.int .i64 ((1 - u) % (p : Int))) ∧ w' = W) := fun u W h1 h2 => rsub_any p 1 u W h3 hm (by omega) (by omega) h1 h2
  have HXF : Hid (∀ A B k, Fits (xpl n A B xs k)) := fun A B k => xpl_fits fx k
  obtain ⟨kx, hkx⟩ : ∃ k, k = xs.length := ⟨_, rfl⟩
  have HKX := hid hkx
  rw [← hkx] at hx HFA
  simp only [← hng, ← hkx] at hgl ⊢
  generalize z.length = nz at *
  generalize t.length = nb at *
  clear hg ho hng hF hkx fz fx ft rz rx lt ht hz hgz
  go_enter Tryz.func88, Tryz.ntmps88
  go_wp2_with fail
  go_loopw [13, 14, 15, 16, 17, 18, 19, 20, 21, 22, 23] (fun sv iv _ _ _ _ _ _ _ _ _ wr => ∃ k : Nat, k ≤ ng ∧ iv = .int .i64 (k : Int) ∧ (∃ s : Int, sv = .int .i64 s ∧ Hid (s = F k)) ∧ Hid (Below w.heap.size w wr)) (fun _ iv _ _ _ _ _ _ _ _ _ _ => ng - (intOf iv).toNat)
  case atStart => exact ⟨0, by omega, rfl, ⟨0, rfl, HF0.out.symm⟩, Below.refl _ _⟩
  case round =>
    obtain ⟨i, hk, rfl, ⟨s0, rfl, hs⟩, hI⟩ := hrel
    by_cases hlt : i < ng
    · have hlt2 : (i : Int) < (ng : Int) := by omega
      have hks : IntKind.i64.wrap ((i : Int) + 1) = (i : Int) + 1 := by rw [IntKind.wrap_i64]; omega
      obtain ⟨b1, o1, rfl, hb1', g0, g1, g2⟩ := (HGS.out.below hI.out).row i (by rw [← HNG.out]; exact hlt)
      obtain ⟨hkd, ⟨ha0, ha1⟩, hb0', hb1⟩ := HOK.out i (by rw [← HNG.out]; exact hlt)
      have HFE := hid (HFA.out i)
      generalize gat gs i = g at *
      obtain ⟨gk, ga0, gb0⟩ := g
      simp only at g0 g1 g2 ha0 ha1 hb0' hb1 HFE hkd
      obtain ⟨A, rfl⟩ : ∃ ga : Nat, ga0 = (ga : Int) := ⟨ga0.toNat, by omega⟩
      obtain ⟨B, rfl⟩ : ∃ gb : Nat, gb0 = (gb : Int) := ⟨gb0.toNat, by omega⟩
      rw [Int.toNat_natCast, Int.toNat_natCast] at HFE
      have HG2 : Hid (∀ W, Below wr.heap.size wr W → W.cell? ⟨b1, o1 + i * 3, none⟩ = some (.int .i64 gk) ∧ W.cell? ⟨b1, o1 + i * 3 + 2, none⟩ = some (.int .i64 (B : Int))) := fun W hW => ⟨(hW.cell (p := ⟨b1, o1 + i * 3, none⟩) (Nat.lt_of_lt_of_le hb1' hI.out.size)).trans g0, (hW.cell (p := ⟨b1, o1 + i * 3 + 2, none⟩) (Nat.lt_of_lt_of_le hb1' hI.out.size)).trans g2⟩
      obtain ⟨wo, rfl⟩ : ∃ wo, wo = wr := ⟨_, rfl⟩
      have HA := hid (HBT.out A wo (by omega))
      have hB64 : B ≤ 64 := by omega
      clear ha0 ha1 hb0' hb1 g0 g2
      go_wp2_with fail
      refine HA.out.mono ?_
      rintro e w1 ⟨rfl, hl1, hb1⟩
      obtain ⟨d0, d2⟩ := HG2.out w1 hb1
      have HB := hid (HBT.out B w1 hB64)
      have HL1 := hid hl1
      have HB1 := hid hb1
      clear hl1 hb1 g1 HA d0
      go_wp2_with fail
      refine HB.out.mono ?_
      rintro e w2 ⟨rfl, hl2, hb2⟩
      have HB2 : Hid (Below wo.heap.size wo w2) := HB1.out.trans (hb2.mono HB1.out.size)
      have HO2 : Hid ((w2.alloc (.cells #[] 3)).ownsRow w2.heap.size 3 1 (.slice (some ⟨w2.heap.size, 0, none⟩) 0 0) ([] : List Int).length (([] : List Int).map (Value.int .i64))) := World.ownsRow_made (size := 1) w2 #[] 0 (Nat.le_refl _) (by unfold maxLen; omega) (by simp)
      have HBA : Hid (Below w2.heap.size w2 (w2.alloc (.cells #[] 3))) := (Below.refl _ _).alloc (Nat.le_refl _) _
      have HLA : Hid (Lst w2.heap.size (w2.alloc (.cells #[] 3)) (some ⟨wo.heap.size, 0, none⟩) n (ls (bitz n A) n)) := ((HL1.out.below hb2).mono hb2.size).below HBA.out
      have HLB : Hid (∀ W, Below w2.heap.size w2 W → Lst w2.heap.size W (some ⟨w1.heap.size, 0, none⟩) n (ls (bitz n B) n)) := fun W hW => hl2.below hW
      have HLE : Hid (∀ X, (ls (bitz n X) n).length = n) := fun X => ls_len _ _
      obtain ⟨ZA, hZA⟩ : ∃ Z, Z = ls (bitz n A) n := ⟨_, rfl⟩
      obtain ⟨ZB, hZB⟩ : ∃ Z, Z = ls (bitz n B) n := ⟨_, rfl⟩
      have HZL : Hid (ZA.length = n ∧ ZB.length = n) := ⟨by rw [hZA]; exact ls_len _ _, by rw [hZB]; exact ls_len _ _⟩
      have HAP : Hid (ZA ++ ZB = xpl n A B xs 0) := by unfold Hid; rw [hZA, hZB]; exact abl_app n A B xs
      rw [← hZA] at HLA
      rw [← hZB] at HLB
      clear hl2 hb2 HL1 HB1 d2 HB hZA hZB
      go_wp2_with (at_builtin; refine wpList_appendL (w2.alloc (.cells #[] 3)) w2.heap.size w2.heap.size rfl _ _ rfl _ rfl [] ZA HO2.out (some ⟨wo.heap.size, 0, none⟩) n (by show Value.slice _ n n = _; rw [HZL.out.1]) (by rw [HZL.out.1]; simp; omega) HBA.out.size HLA.out ?_)
      intro v1 w3 ho3 hb3
      have HO3 := hid ho3
      have HB3 : Hid (Below w2.heap.size w2 w3) := HBA.out.trans hb3
      clear ho3 hb3 HO2 HBA HLA
      go_wp2_with (at_builtin; refine wpList_appendL w3 w2.heap.size w2.heap.size rfl _ _ rfl _ rfl ZA ZB HO3.out (some ⟨w1.heap.size, 0, none⟩) n (by show Value.slice _ n n = _; rw [HZL.out.2]) (by rw [HZL.out.1, HZL.out.2]; omega) HB3.out.size (HLB.out _ HB3.out) ?_)
      intro v2 w4 ho4 hb4
      rw [← List.length_append, ← List.map_append, HAP.out] at ho4
      obtain ⟨a', cap, rfl, hat⟩ := atS_of ho4
      have HB4 : Hid (Below w2.heap.size w2 w4) := HB3.out.trans hb4
      have HAT := hid hat
      have HBW : Hid (∀ W, Below w2.heap.size w2 W → Below w.heap.size w W) := fun W hW => hI.out.trans ((HB2.out.trans (hW.mono HB2.out.size)).mono hI.out.size)
      have HU := hid (HUN.out w4 i hlt (HBW.out w4 HB4.out))
      rw [xpl_len]
      obtain ⟨u0, hu0⟩ : ∃ u, u = Sum.wgt (zat z) nz i := ⟨_, rfl⟩
      rw [← hu0] at HU HFE
      obtain ⟨MF, hMF⟩ : ∃ MF : Nat → Int, MF = fun k => u0 * Sum.prz (gfac n A B xs) k % (p : Int) := ⟨_, rfl⟩
      have HM0 : Hid (u0 % (p : Int) = MF 0) := by unfold Hid; rw [hMF]; simp [Sum.prz]
      have HMS : Hid (∀ k r, (p : Int) ∣ r - gfac n A B xs k → MF k * r % (p : Int) = MF (k + 1)) := fun k r h => by rw [hMF]; exact mstep u0 _ k r h
      have HMB : Hid (∀ k, 0 ≤ MF k ∧ MF k < p) := fun k => by rw [hMF]; exact emod_bounds _ p h3
      have HMD : Hid ((p : Int) ∣ MF kx - u0 * Sum.prz (gfac n A B xs) kx) := by unfold Hid; rw [hMF]; exact Pol.emod_dvd p _
      have HFM := hid (HFE.out _ HMD.out)
      have hroom := hat.1.room
      rw [xpl_len] at hroom
      clear ho4 hb4 hat HO3 HB3 HLB HZL HAP HLE hu0 hMF HFE HMD
      obtain ⟨N2, hN2⟩ : ∃ N, N = n + n := ⟨_, rfl⟩
      rw [← hN2] at hroom ⊢
      have hN3 : kx ≤ N2 := by omega
      have hN4 : N2 ≤ 12 := by omega
      have HN2 := hid hN2
      clear hN2
      go_wp2_with fail
      refine HU.out.mono ?_
      rintro e w5 ⟨rfl, hb5⟩
      have HB5 : Hid (Below w2.heap.size w2 w5) := HB4.out.trans (hb5.mono HB4.out.size)
      have HA5 := hid (HAT.out.below hb5)
      have HQ : Hid (∀ k, zat (xpl n A B xs k) k = abz n A B k ∨ ¬ k < N2) := fun k => by
        by_cases h : k < N2
        · refine Or.inl ?_
          unfold xpl
          rw [ls_at _ _ _ (by rw [← HN2.out]; exact h)]
          unfold xpk
          rw [if_neg (by omega)]
        · exact Or.inr h
      clear hb5 HAT HU
      go_wp2_with fail
      go_loopw [18, 19, 20] (fun mv kv _ wr => ∃ k : Nat, k ≤ kx ∧ kv = .int .i64 (k : Int) ∧ (∃ s : Int, mv = .int .i64 s ∧ Hid (s = MF k)) ∧ Hid (AtS w2.heap.size wr a' cap (xpl n A B xs k) ∧ Below w2.heap.size w2 wr)) (fun _ kv _ _ => kx - (intOf kv).toNat)
      case atStart => exact ⟨0, by omega, rfl, ⟨_, rfl, HM0.out⟩, HA5.out, HB5.out⟩
      case round =>
        obtain ⟨k, hkk, rfl, ⟨m0, rfl, hms⟩, hJ⟩ := hrel
        by_cases hkl : k < kx
        · have hkl2 : (k : Int) < (kx : Int) := by omega
          have hks2 : IntKind.i64.wrap ((k : Int) + 1) = (k : Int) + 1 := by rw [IntKind.wrap_i64]; omega
          have hkn : (k : Int) < (N2 : Int) := by omega
          have hxl : k < (xpl n A B xs k).length := by rw [xpl_len, ← HN2.out]; omega
          obtain ⟨g, rfl, hgb, hrw⟩ := hJ.out.1.2 (by omega)
          obtain ⟨b3, o3, rfl, hb3, hx3⟩ := HRX.out k (by rw [← HKX.out]; exact hkl)
          have hx4 := ((HBW.out wr hJ.out.2).cell (p := ⟨b3, o3 + k, none⟩) hb3).trans hx3
          have hc4 := hrw.cells k hxl
          have hsf := hrw.soft k
          rw [(HQ.out k).resolve_right (by omega)] at hc4
          have HGF : Hid (gfac n A B xs k = if abz n A B k = 0 then 1 - zat xs k else zat xs k) := rfl
          obtain ⟨f1, f2⟩ := HFX.out.all k
          have HNX : Hid (AtS w2.heap.size (wr.setCell ⟨g, k, none⟩ (.int .i64 (zat xs k))) (some ⟨g, 0, none⟩) cap (xpl n A B xs (k + 1)) ∧ Below w2.heap.size w2 (wr.setCell ⟨g, k, none⟩ (.int .i64 (zat xs k)))) := by
            refine ⟨?_, hJ.out.2.setCell (p := ⟨g, k, none⟩) hgb _⟩
            have h := hJ.out.1.set (zat xs k) hxl
            rwa [xpl_set] at h
          have HMK := hid (HMS.out k)
          have hmb := HMB.out k
          rw [← hms.out] at hmb HMK
          rw [HGF.out] at HMK
          generalize abz n A B k = q at *
          generalize zat xs k = x at *
          have HOX := hid (HOF.out x wr f1 f2)
          obtain ⟨e1, e2⟩ := emod_bounds x p h3
          obtain ⟨e3, e4⟩ := emod_bounds (1 - x) p h3
          by_cases hq : q = 0
          · have hqb : (q == 0) = true := by rw [beq_iff_eq]; exact hq
            have HSX := hid (HSU.out x wr f1 f2)
            have HMX := hid (HMU.out m0 ((1 - x) % (p : Int)) wr hmb ⟨e3, e4⟩)
            have HME := hid (HMK.out ((1 - x) % (p : Int)) (by rw [if_pos hq]; exact Pol.emod_dvd p _))
            generalize (1 - x) % (p : Int) = y at *
            generalize x % (p : Int) = y' at *
            generalize m0 * y % (p : Int) = m1 at *
            clear hJ hms hmb HMK HGF hrw hgb hxl hx3 f1 f2 e1 e2 e3 e4 hq
            go_wp2_with fail
            refine HOX.out.mono ?_
            rintro e w6 ⟨rfl, rfl⟩
            go_wp2_with fail
            refine HSX.out.mono ?_
            rintro e w6 ⟨rfl, rfl⟩
            go_wp2_with fail
            refine HMX.out.mono ?_
            rintro e w6 ⟨rfl, rfl⟩
            go_wp2_with fail
            go_roundw
            case rel => exact ⟨k + 1, by omega, by go_num, ⟨m1, rfl, HME.out⟩, HNX.out⟩
            case measure => simp [intOf]; omega
          · have hqb : (q == 0) = false := by rw [beq_eq_false_iff_ne]; exact hq
            have HMX := hid (HMU.out m0 (x % (p : Int)) wr hmb ⟨e1, e2⟩)
            have HME := hid (HMK.out (x % (p : Int)) (by rw [if_neg hq]; exact Pol.emod_dvd p _))
            generalize x % (p : Int) = y at *
            generalize m0 * y % (p : Int) = m1 at *
            clear hJ hms hmb HMK HGF hrw hgb hxl hx3 f1 f2 e1 e2 e3 e4 hq
            go_wp2_with fail
            refine HOX.out.mono ?_
            rintro e w6 ⟨rfl, rfl⟩
            go_wp2_with fail
            refine HMX.out.mono ?_
            rintro e w6 ⟨rfl, rfl⟩
            go_wp2_with fail
            go_roundw
            case rel => exact ⟨k + 1, by omega, by go_num, ⟨m1, rfl, HME.out⟩, HNX.out⟩
            case measure => simp [intOf]; omega
        · obtain rfl : k = kx := by omega
          have hkl2 : ¬ (k : Int) < (k : Int) := by omega
          have hbw := HBW.out wr hJ.out.2
          obtain ⟨XR, hXR⟩ : ∃ X, X = xpl n A B xs k := ⟨_, rfl⟩
          have hAR := hJ.out.1
          rw [← hXR] at hAR
          have hXL : XR.length = n + n := by rw [hXR]; exact xpl_len _ _ _ _ _
          have hXF : Fits XR := by rw [hXR]; exact HXF.out A B k
          have HE1 := hid (HEX.out wr a' cap (XR.take n) (by rw [List.length_take]; omega) (fits_take n hXF) hbw (take_row hAR.1.row))
          have HE2 : Hid (∀ aa c, aa = adS a' cap n → Calls Tryz.prog 157 #[.int .i64 (p : Int), .slice ab nb cb, .slice aa n c] wr fun e w' => e = .returned (.int .i64 (Sum.ext (zat t) (zat (XR.drop n)) n % (p : Int))) ∧ w' = wr) := fun aa c h => by
            rw [h]
            exact HEX.out wr (adS a' cap n) c (XR.drop n) (by rw [List.length_drop]; omega) (fits_drop n hXF) hbw (adS_row hAR.1.row hAR.1.room)
          have hz1 : Sum.ext (zat t) (zat (XR.take n)) n = Sum.ext (zat t) (xpt n A B xs) n := Sum.ext_same (fun _ _ => rfl) (fun j hj => by rw [zat_take hj, hXR, HKX.out, xpl_end _ _ _ _ (by omega)])
          have hz2 : Sum.ext (zat t) (zat (XR.drop n)) n = Sum.ext (zat t) (fun j => xpt n A B xs (n + j)) n := Sum.ext_same (fun _ _ => rfl) (fun j hj => by rw [zat_drop, hXR, HKX.out, xpl_end _ _ _ _ (by omega)])
          rw [hz1] at HE1
          rw [hz2] at HE2
          obtain ⟨x1, x2⟩ := emod_bounds (Sum.ext (zat t) (xpt n A B xs) n) p h3
          obtain ⟨y1, y2⟩ := emod_bounds (Sum.ext (zat t) (fun j => xpt n A B xs (n + j)) n) p h3
          generalize Sum.ext (zat t) (xpt n A B xs) n % (p : Int) = X at *
          generalize Sum.ext (zat t) (fun j => xpt n A B xs (n + j)) n % (p : Int) = Y at *
          obtain ⟨d0, d2⟩ := HG2.out wr (HB2.out.trans (hJ.out.2.mono HB2.out.size))
          have HAX := hid (HAD.out X Y wr ⟨x1, x2⟩ ⟨y1, y2⟩)
          have HMX := hid (HMU.out X Y wr ⟨x1, x2⟩ ⟨y1, y2⟩)
          have hj := jnz_bounds p gk X Y h3
          have hmb := HMB.out k
          have hsb := HFB.out i
          have HMV := hid (HMU.out (MF k) (jnz p gk X Y) wr hmb hj)
          obtain ⟨v1', v2'⟩ := emod_bounds (MF k * jnz p gk X Y) p h3
          have HSV := hid (HAD.out (F i) (MF k * jnz p gk X Y % (p : Int)) wr hsb ⟨v1', v2'⟩)
          have HFF : Hid ((F i + MF k * jnz p gk X Y % (p : Int)) % (p : Int) = F (i + 1)) := HFM.out
          have HSE := hid hs.out
          have HME := hid hms.out
          rw [← hs.out] at HSV HFF
          rw [← hms.out] at HMV HSV HFF
          have hNN : N2 - n = n := by rw [HN2.out]; omega
          have hnc : n ≤ cap := by omega
          have hnc2 : n ≤ N2 := by omega
          have HBE : Hid (Below w.heap.size w wr) := hbw
          clear hJ hAR hXL hXF hXR hz1 hz2 hbw x1 x2 y1 y2 hj hmb hsb v1' v2' d2 hs hms HFM hroom hN3
          rcases hkd with rfl | rfl
          · have hj0 : jnz p 0 X Y = (X + Y) % (p : Int) := rfl
            rw [hj0] at HMV HSV HFF
            clear hj0
            generalize (X + Y) % (p : Int) = V at *
            generalize m0 * V % (p : Int) = V2 at *
            generalize (s0 + V2) % (p : Int) = V3 at *
            go_wp2_with fail
            refine HE1.out.mono ?_
            rintro e w6 ⟨rfl, rfl⟩
            go_wp2_with fail
            all_goals
              refine (HE2.out _ _ (by first | exact (if_pos (by assumption)).symm | exact (if_neg (by assumption)).symm)).mono ?_
              rintro e w6 ⟨rfl, rfl⟩
              go_wp2_with fail
              refine HAX.out.mono ?_
              rintro e w6 ⟨rfl, rfl⟩
              go_wp2_with fail
              refine HMV.out.mono ?_
              rintro e w6 ⟨rfl, rfl⟩
              go_wp2_with fail
              refine HSV.out.mono ?_
              rintro e w6 ⟨rfl, rfl⟩
              go_wp2_with fail
              go_roundw
              case rel => exact ⟨i + 1, by omega, by go_num, ⟨V3, rfl, HFF.out⟩, HBE.out⟩
              case measure => simp [intOf]; omega
          · have hj0 : jnz p 1 X Y = (X * Y) % (p : Int) := rfl
            rw [hj0] at HMV HSV HFF
            clear hj0
            generalize (X * Y) % (p : Int) = V at *
            generalize (X + Y) % (p : Int) = V' at *
            generalize m0 * V % (p : Int) = V2 at *
            generalize (s0 + V2) % (p : Int) = V3 at *
            go_wp2_with fail
            refine HE1.out.mono ?_
            rintro e w6 ⟨rfl, rfl⟩
            go_wp2_with fail
            all_goals
              refine (HE2.out _ _ (by first | exact (if_pos (by assumption)).symm | exact (if_neg (by assumption)).symm)).mono ?_
              rintro e w6 ⟨rfl, rfl⟩
              go_wp2_with fail
              refine HAX.out.mono ?_
              rintro e w6 ⟨rfl, rfl⟩
              go_wp2_with fail
              refine HMX.out.mono ?_
              rintro e w6 ⟨rfl, rfl⟩
              go_wp2_with fail
              refine HMV.out.mono ?_
              rintro e w6 ⟨rfl, rfl⟩
              go_wp2_with fail
              refine HSV.out.mono ?_
              rintro e w6 ⟨rfl, rfl⟩
              go_wp2_with fail
              go_roundw
              case rel => exact ⟨i + 1, by omega, by go_num, ⟨V3, rfl, HFF.out⟩, HBE.out⟩
              case measure => simp [intOf]; omega
    · obtain rfl : i = ng := by omega
      have hlt2 : ¬ (i : Int) < (i : Int) := by omega
      have HE := hid hI.out
      clear hI
      go_wp2_with fail
      go_ret
      exact ⟨by rw [← hs.out]; rfl, HE.out⟩

end Go.Proofs.YtpgnabmkfkcogaaGreatDoor
