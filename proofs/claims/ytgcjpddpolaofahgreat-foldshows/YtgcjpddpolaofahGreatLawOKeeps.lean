/- attestlaw5.lives; FoldKeeps: the walk. -/
import Derived.Test.YtgcjpddpolaofahGreatCods
import Derived.Test.YtgcjpddpolaofahGreatPls
namespace Go.Proofs.YtgcjpddpolaofahGreat
open Go.RowKit

theorem ls_congr {F G : Nat → Int} {m : Nat} (h : ∀ i, i < m → F i = G i) : ls F m = ls G m := by
  unfold ls
  apply List.map_congr_left
  intro j hj
  exact h j (List.mem_range.1 hj)
theorem lst_of_rowIs {w : World} {g n : Nat} {f : Nat → Int} (h : w.rowIs g 3 n (fun j => .int .i64 (f j))) : Lst w.heap.size w (some ⟨g, 0, none⟩) n (ls f n) :=
  ⟨fun k hk => by rw [ls_len] at hk; exact ⟨g, 0, rfl, h.lt, by rw [Nat.zero_add, h.cell hk, ls_at _ _ _ hk]⟩, by rw [ls_len]; exact Nat.le_refl _, fun e => by cases e⟩
/-- the values of a polynomial -/
def vlz (p n : Nat) (r s : Int) (zs : List Int) : List Int := ls (fun j => evz p zs (Dom.pt p s r j)) n
theorem vlz_len (p n : Nat) (r s : Int) (zs : List Int) : (vlz p n r s zs).length = n := ls_len _ _
theorem vlz_fits {p : Nat} (h3 : 3 ≤ p) (hm : p ≤ 2147483647) (n : Nat) (r s : Int) (zs : List Int) : Fits (vlz p n r s zs) := fun j hj => by
  rw [vlz_len] at hj
  unfold vlz
  rw [ls_at _ _ _ hj]
  have := evz_bounds p zs (Dom.pt p s r j) h3
  omega
theorem values_lst {w : World} {p b d n : Nat} {r s : Int} (D : DO w p b d n r s) (a : Option Addr) (cap : Nat) (zs : List Int) (hlen : zs.length ≤ 281474976710656) (hfit : Fits zs) (hrow : RowB w.heap.size w a zs) :
    Calls Tryz.prog 13 #[.pointer (some ⟨d, 0, none⟩), .slice a zs.length cap] w fun e w' => ∃ g, e = .returned (.slice (some ⟨g, 0, none⟩) n n) ∧ Lst w'.heap.size w' (some ⟨g, 0, none⟩) n (vlz p n r s zs) ∧ Below w.heap.size w w' :=
  (values_ok D a cap zs hlen hfit hrow).mono fun _ _ ⟨h1, h2, h3, _⟩ => ⟨_, h1, lst_of_rowIs h2, h3⟩
theorem evz_more {p : Nat} (zs : List Int) (x : Int) {N : Nat} (h : zs.length ≤ N) : evz p zs x = Pol.ps (zat zs) x N % (p : Int) := by
  unfold evz
  rw [Dom.ps_stay (zat zs) x zs.length N h (fun j hj => by simp [zat, hj])]
/-- the values of a polynomial, folded, are those of its halves -/
theorem DO.fold_vlz {w : World} {p b d m : Nat} {r s : Int} (D : DO w p b d (2 * m) r s) (zs : List Int) (c : Int) (M : Nat) (hM : zs.length ≤ 2 * M) (B : Nat → Int) (hB : ∀ j, j < M → (p : Int) ∣ B j - Fol.evod (zat zs) c j) :
    Fol.foldz p m r s (vlz p (2 * m) r s zs) c = vlz p m (r * r % (p : Int)) (s * s % (p : Int)) (ls B M) := by
  have hp0 : 0 < p := by have := D.h3; omega
  have h := fun i (hi : i < m) => D.cir.fold_vals (zat zs) M (vlz p (2 * m) r s zs) (fun j hj => by
    unfold vlz
    rw [ls_at _ _ _ hj, evz_more zs _ hM]
    exact Pol.emod_dvd p _) c hi
  unfold vlz at h ⊢
  unfold Fol.foldz at h ⊢
  refine ls_congr (fun i hi => ?_)
  have h1 := h i hi
  rw [ls_at _ _ _ hi] at h1
  rw [evz_more (ls B M) _ (by rw [ls_len]; exact Nat.le_refl _)]
  have h2 := Pol.ps_congr (p := p) (f := zat (ls B M)) (g := Fol.evod (zat zs) c) (Dom.pt p (s * s % (p : Int)) (r * r % (p : Int)) i) M (fun j hj => by rw [ls_at _ _ _ hj]; exact hB j hj)
  have h3 := Fol.dvdt h1 (Fol.dvdn h2)
  have hb := Fol.pairz_bounds p (Dom.pt p s r i) (zat (ls (fun j => evz p zs (Dom.pt p s r j)) (2 * m)) i) (zat (ls (fun j => evz p zs (Dom.pt p s r j)) (2 * m)) (i + m)) c D.h3
  rw [← Int.emod_eq_of_lt hb.1 hb.2, Pol.emod_eq_iff hp0]
  exact h3

set_option maxRecDepth 100000 in
set_option maxHeartbeats 1000000 in
theorem lives5_any (FD : FldAs) (w : World) : Calls Tryz.prog 4 #[] w fun e w' => e = .returned (.bool true) ∧ Below w.heap.size w w' := by
  have HG : Hid (GoodAt 17 (1 + 1) 3) := ⟨prime17, by decide, by decide, by decide, by decide, by decide⟩
  have HFD := hid FD
  have HPL : Hid (Calls Tryz.prog 5 #[.int .i64 17, .int .i64 4, .int .i64 3] w fun e w' => ∃ (b d h r : Nat), e = .returned (.tuple #[.pointer (some ⟨b, 0, none⟩), .pointer (some ⟨d, 0, none⟩), .pointer (some ⟨h, 0, none⟩)]) ∧ RootIs 17 ((2 ^ (1 + 1) : Nat) : Int) r ∧ Dh w' 17 b d h (2 ^ 1) r (3 % ((17 : Nat) : Int)) ∧ Below w.heap.size w w') := plain5_yes 17 1 3 w HG.out (by decide) (by decide)
  clear FD
  go_enter Tryz.func4, Tryz.ntmps4
  go_wp2_with fail
  refine HPL.out.mono ?_
  rintro e w1 ⟨b, d, h, r, rfl, _, hD, hb1⟩
  have HD1 := hid hD
  have HB1 := hid hb1
  have HBL : Hid (Below w1.heap.size w1 (w1.alloc (.cells #[.int .i64 1, .int .i64 1] 3))) := (Below.refl _ _).alloc (Nat.le_refl _) _
  have HSZ : Hid ((w1.alloc (.cells #[.int .i64 1, .int .i64 1] 3)).heap.size = w1.heap.size + 1) := by unfold Hid; simp
  have HD2 := hid (HD1.out.step HBL.out)
  have HV := hid (values_lst HD2.out.dom (some ⟨w1.heap.size, 0, none⟩) 2 [1, 1] (by decide) (fun j hj => by
      have : j = 0 ∨ j = 1 := by simp at hj; omega
      rcases this with rfl | rfl <;> simp [zat])
    (fun k hk => by
      have : k = 0 ∨ k = 1 := by simp at hk; omega
      rcases this with rfl | rfl <;> exact ⟨w1.heap.size, 0, rfl, by rw [HSZ.out]; omega, by simp [zat]⟩))
  clear hD hb1 HPL
  go_wp2_with fail
  refine HV.out.mono ?_
  rintro e w2 ⟨g, rfl, hl2, hb2⟩
  have HD3 := hid (HD2.out.step hb2)
  have HB2 : Hid (Below w.heap.size w w2) := (HB1.out.trans (HBL.out.mono HB1.out.size)).trans (hb2.mono (by rw [HSZ.out]; have := HB1.out.size; omega))
  have HF2 := hid (HFD.out 17 b d (2 * 2 ^ 1) (2 * 2 ^ 1) (some ⟨g, 0, none⟩) r (3 % ((17 : Nat) : Int)) 2 (vlz 17 (2 * 2 ^ 1) r (3 % ((17 : Nat) : Int)) [1, 1]) w2 HD3.out.dom (by rw [vlz_len]; decide) (vlz_fits (by decide) (by decide) _ _ _ _) hl2 (by decide) (by decide))
  rw [vlz_len, show (2 * 2 ^ 1 / 2 : Nat) = 2 ^ 1 from by decide, HD3.out.dom.fold_vlz [1, 1] 2 1 (by decide) (fun _ => 3) (fun j hj => by
    obtain rfl : j = 0 := by omega
    simp [Fol.evod, zat])] at HF2
  clear hl2 hb2 HV
  rw [show ((2 * 2 ^ 1 : Nat)) = 4 from rfl] at HF2 ⊢
  go_wp2_with fail
  refine HF2.out.mono ?_
  rintro e w3 ⟨hb3, hy, _⟩
  obtain ⟨a', c', rfl, hl3⟩ := hy (by first | exact ⟨rfl, by decide⟩ | simp)
  have HB3 : Hid (Below w.heap.size w w3) := HB2.out.trans (hb3.mono HB2.out.size)
  have hz : ∀ j, j < 2 → zat (vlz 17 (2 ^ 1) ((r : Int) * (r : Int) % ((17 : Nat) : Int)) (3 % ((17 : Nat) : Int) * (3 % ((17 : Nat) : Int)) % ((17 : Nat) : Int)) (ls (fun _ => 3) 1)) j = 3 := fun j hj => by
    unfold vlz
    rw [ls_at _ _ _ (by simpa using hj)]
    simp [evz, ls, Pol.ps, zat]
  obtain ⟨b3, o3, ha, _, x0⟩ := hl3.row 0 (by rw [vlz_len]; decide)
  obtain ⟨_, _, he, _, x1⟩ := hl3.row 1 (by rw [vlz_len]; decide)
  subst ha
  cases he
  rw [hz 0 (by omega), Nat.add_zero] at x0
  rw [hz 1 (by omega)] at x1
  rw [show (2 ^ 1 : Nat) = 2 from rfl]
  clear hl3 hb3 hy hz HF2
  go_wp2_with fail
  go_ret
  exact ⟨rfl, HB3.out⟩

end Go.Proofs.YtgcjpddpolaofahGreat
