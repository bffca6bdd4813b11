/- Package code: times, locator. -/
import Derived.Test.YtbpkmhibdaafiadDoorCodD
import Derived.Test.YtbpkmhibdaafiadDoorPolE
import Derived.StillTailTactics
namespace Go.Proofs.YtbpkmhibdaafiadDoor
open Go.RowKit

/-- the polynomial whose values are a word times those of another -/
def tmz (p n : Nat) (r s : Int) (ws zs : List Int) : List Int := bk p n r s (ls (fun j => evz p zs (Dom.pt p s r j) * zat ws j % (p : Int)) n)
theorem DO.tm_at {w : World} {p b d n : Nat} {r s : Int} (D : DO w p b d n r s) (ws zs : List Int) (j : Nat) (hj : j < n) : evz p (tmz p n r s ws zs) (Dom.pt p s r j) = evz p zs (Dom.pt p s r j) * zat ws j % (p : Int) := by
  unfold tmz
  rw [D.bk_at _ j hj, ls_at _ _ _ hj, Int.emod_emod_of_dvd _ (Int.dvd_refl _)]

set_option maxRecDepth 100000 in
set_option maxHeartbeats 1000000 in
theorem ctimes_any {w : World} {p b d n : Nat} {r s : Int} (D : DO w p b d n r s) (a1 a2 : Option Addr) (c1 c2 : Nat) (ws zs : List Int) (hw : ws.length = n) (hz : zs.length ≤ 281474976710656) (hf1 : Fits ws) (hf2 : Fits zs) (hr1 : RowB w.heap.size w a1 ws) (hr2 : RowB w.heap.size w a2 zs) :
    Calls Tryd.prog 47 #[.pointer (some ⟨d, 0, none⟩), .slice a1 n c1, .slice a2 zs.length c2] w fun e w' => ∃ (g c : Nat), e = .returned (.slice (some ⟨g, 0, none⟩) (tmz p n r s ws zs).length c) ∧ Lst w'.heap.size w' (some ⟨g, 0, none⟩) c (tmz p n r s ws zs) ∧ Below w.heap.size w w' := by
  obtain ⟨hn0, hn⟩ := D.pos
  have HD := hid D
  have HV := hid (values_ok D a2 c2 zs hz hf2 hr2)
  have HF := hid hf1
  have HR := hid hr1
  have h3 := D.h3
  have hm := D.hm
  have hbl := D.blt
  have hdl := D.dlt
  have hmx : Tryd.prog.follows .mixedOrders = true := by kernel_rfl
  have HEB : Hid (∀ j, 0 ≤ evz p zs (Dom.pt p s r j) ∧ evz p zs (Dom.pt p s r j) < p) := fun j => evz_bounds p zs _ h3
  have HTM : Hid (tmz p n r s ws zs = bk p n r s (ls (fun j => evz p zs (Dom.pt p s r j) * zat ws j % (p : Int)) n)) := rfl
  rw [HTM.out]
  generalize hev : (fun j => evz p zs (Dom.pt p s r j)) = ev at *
  have HEB2 : Hid (∀ j, 0 ≤ ev j ∧ ev j < p) := by rw [← hev]; exact HEB.out
  have hev2 : ∀ j, evz p zs (Dom.pt p s r j) = ev j := fun j => by rw [← hev]
  simp only [hev2] at HV ⊢
  clear D hf1 hf2 hr1 hr2 hev hev2 HEB HTM
  go_enter Tryd.func47, Tryd.ntmps47
  go_wp2_with fail
  refine HV.out.mono ?_
  rintro e W0 ⟨rfl, hri0, hb0, hlt0⟩
  have HRI0 := hid hri0
  have HB0 := hid hb0
  clear hri0 hb0 HV
  go_wp2_with fail
  go_loopw [16] (fun iv wr => ∃ k : Nat, k ≤ n ∧ iv = .int .i64 k ∧ Hid (wr.rowIs w.heap.size 3 n (fun j => .int .i64 (if j < k then ev j * zat ws j % (p : Int) else ev j))) ∧ Hid (Below w.heap.size w wr))
    (fun iv _ => n - (intOf iv).toNat)
  case atStart => exact ⟨0, Nat.zero_le _, rfl, HRI0.out.congr (fun j _ => by simp), HB0⟩
  case round =>
    obtain ⟨k, hk, rfl, hri, hbel⟩ := hrel
    by_cases hlt : k < n
    · have hlt2 : (k : Int) < (n : Int) := by omega
      have hok := hri.out.cell hlt
      rw [if_neg (Nat.lt_irrefl k)] at hok
      have hos := hri.out.frozen k
      obtain ⟨bl, ol, rfl, hbl1, hcl⟩ := HR.out k (by omega)
      have hcl2 := (hbel.out.cell (p := ⟨bl, ol + k, none⟩) hbl1).trans hcl
      obtain ⟨y1, y2⟩ := HF.out k (by omega)
      obtain ⟨v1, v2⟩ := HEB2.out k
      have hpc := (hbel.out.cell (p := ⟨b, 0, none⟩) hbl).trans HD.out.hp
      have d0 := (hbel.out.cell (p := ⟨d, 0, none⟩) hdl).trans HD.out.da.f
      have HM : Hid (∀ W : World, W.cell? ⟨b, 0, none⟩ = some (.int .i64 p) → Calls Tryd.prog 58 #[.pointer (some ⟨b, 0, none⟩), .int .i64 (ev k), .int .i64 (zat ws k)] W fun e w' => e = .returned (.int .i64 (ev k * zat ws k % (p : Int))) ∧ w' = W) :=
        fun W h => mul_any p b _ _ W h3 hm h (by omega) (by omega) y1 y2
      have HRI : Hid ((wr.setCell ⟨w.heap.size, k, none⟩ (.int .i64 (ev k * zat ws k % (p : Int)))).rowIs w.heap.size 3 n (fun j => .int .i64 (if j < k + 1 then ev j * zat ws j % (p : Int) else ev j))) :=
        (hri.out.set k _).congr (fun j _ => by
          show (if j = k then Value.int .i64 (ev k * zat ws k % (p : Int)) else Value.int .i64 (if j < k then ev j * zat ws j % (p : Int) else ev j)) = _
          by_cases e : j = k
          · subst e; rw [if_pos rfl, if_pos (Nat.lt_succ_self _)]
          · rw [if_neg e]
            by_cases e2 : j < k
            · rw [if_pos e2, if_pos (by omega)]
            · rw [if_neg e2, if_neg (by omega)])
      have HB := hid (hbel.out.setCell (p := ⟨w.heap.size, k, none⟩) (Nat.le_refl _) (.int .i64 (ev k * zat ws k % (p : Int))))
      clear hcl hri
      generalize ev k * zat ws k % (p : Int) = z at *
      generalize zat ws k = y at *
      generalize ev k = x at *
      go_wp2_with fail
      go_still_tail 16, hmx
      still_call (HM.out _ hpc)
      refine wpStill_nil ?_
      go_wp2_with fail
      go_roundw
      case rel => exact ⟨k + 1, by omega, by go_num, HRI, HB.out.drew⟩
      case measure => simp [intOf]; omega
    · have hlt2 : ¬ (k : Int) < (n : Int) := by omega
      obtain rfl : k = n := by omega
      have HL : Hid (Lst wr.heap.size wr (some ⟨w.heap.size, 0, none⟩) k (ls (fun j => ev j * zat ws j % (p : Int)) k)) := by
        refine ⟨fun j hj => ?_, by rw [ls_len]; exact Nat.le_refl _, fun h => by cases h⟩
        rw [ls_len] at hj
        refine ⟨w.heap.size, 0, rfl, hri.out.lt, ?_⟩
        rw [Nat.zero_add, ls_at _ _ _ hj, hri.out.cell hj, if_pos hj]
      have HFL : Hid (Fits (ls (fun j => ev j * zat ws j % (p : Int)) k)) := fun j hj => by
        rw [ls_len] at hj
        rw [ls_at _ _ _ hj]
        have := emod_bounds (ev j * zat ws j) p h3
        omega
      have HDW := hid (HD.out.below hbel.out hbl hdl)
      have HCF := hid (coef_ok HDW.out (some ⟨w.heap.size, 0, none⟩) k _ (ls_len _ _) HFL.out HL.out)
      obtain ⟨B, hB⟩ : ∃ B, B = bk p k r s (ls (fun j => ev j * zat ws j % (p : Int)) k) := ⟨_, rfl⟩
      have HBE := hid hB
      rw [← hB] at HCF
      clear hri HL HFL hB
      go_wp2_with fail
      refine HCF.out.mono ?_
      rintro e w2 ⟨g, c, rfl, hl2, hb2⟩
      have HE : Hid (Lst w2.heap.size w2 (some ⟨g, 0, none⟩) c B ∧ Below w.heap.size w w2) := ⟨hl2, hbel.out.trans (hb2.mono hbel.out.size)⟩
      clear hl2 hb2
      go_wp2_with fail
      go_ret
      exact ⟨g, c, by rw [← HBE.out]; rfl, by rw [← HBE.out]; exact HE.out⟩

/-- how long a list is -/
def lenOf : Value → Nat
  | .slice _ n _ => n
  | _ => 0

theorem drop_can {p : Nat} {A : List Int} (h : Pol.Can p A) (m : Nat) : Pol.Can p (A.drop m) := by
  refine ⟨fun j hj => ?_, fun h0 => ?_⟩
  · rw [List.length_drop] at hj
    have := h.elem (m + j) (by omega)
    simpa [List.getD_eq_getElem?_getD, List.getElem?_drop] using this
  · rw [List.length_drop] at h0 ⊢
    have := h.last (by omega)
    rw [show A.length - 1 = m + (A.length - m - 1) from by omega] at this
    simpa [List.getD_eq_getElem?_getD, List.getElem?_drop] using this

end Go.Proofs.YtbpkmhibdaafiadDoor
