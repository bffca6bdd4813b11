/- What package poly's Gcd answers. -/
import Derived.Test.YtfombbbiilalpabDoorPolJ
import Derived.Test.YtfombbbiilalpabDoorOrdInv
namespace Go.Proofs.YtfombbbiilalpabDoor
open Go.RowKit

/-- the row at the search's end -/
def GEnd (p : Nat) (A B : List Int) (w : World) (t : Nat → Value) : Prop :=
  ∃ (hs hu hv nu nv : List Int) (s0 s1 s2 : Option Addr) (d0 d1 d2 : Nat), t = tri (.slice s0 hs.length d0) (.slice s1 hu.length d1) (.slice s2 hv.length d2) ∧ GI p A B (A.length + B.length + 1) hs hu hv [] nu nv ∧ RowB w.heap.size w s0 hs ∧ RowB w.heap.size w s1 hu ∧ RowB w.heap.size w s2 hv

theorem GEnd.step {p : Nat} {A B : List Int} {w w' : World} {t : Nat → Value} (h : GEnd p A B w t) (e : Below w.heap.size w w') : GEnd p A B w' t := by
  obtain ⟨hs, hu, hv, nu, nv, s0, s1, s2, d0, d1, d2, e1, e2, e3, e4, e5⟩ := h
  exact ⟨hs, hu, hv, nu, nv, s0, s1, s2, d0, d1, d2, e1, e2, (e3.below e).mono e.size, (e4.below e).mono e.size, (e5.below e).mono e.size⟩

def nil3 : Nat → Value := tri (.slice none 0 0) (.slice none 0 0) (.slice none 0 0)

/-- what the operations of the first statement yield -/
def gF (p b c1 c2 : Nat) (a1 a2 : Option Addr) (A B : List Int) (W0 : World) (w : World) : Nat → Value → Prop
  | 0, v => v = .pointer (some ⟨b, 0, none⟩)
  | 1, v => v = .pointer (some ⟨b, 0, none⟩)
  | 2, v => v = .slice a1 A.length c1
  | 3, v => ∃ g, v = .slice (some ⟨g, 0, none⟩) (Pol.trim p A).length (Pol.trim p A).length ∧ RowB w.heap.size w (some ⟨g, 0, none⟩) (Pol.trim p A)
  | 4, v => ∃ g, v = .slice (some ⟨g, 0, none⟩) 1 1 ∧ RowB w.heap.size w (some ⟨g, 0, none⟩) [1]
  | 5, v => ∃ g g', v = .agg #[.slice (some ⟨g, 0, none⟩) (Pol.trim p A).length (Pol.trim p A).length, .slice (some ⟨g', 0, none⟩) 1 1, .slice none 0 0] ∧ RowB w.heap.size w (some ⟨g, 0, none⟩) (Pol.trim p A) ∧ RowB w.heap.size w (some ⟨g', 0, none⟩) [1]
  | 6, v => v = .pointer (some ⟨b, 0, none⟩)
  | 7, v => v = .slice a2 B.length c2
  | 8, v => ∃ g, v = .slice (some ⟨g, 0, none⟩) (Pol.trim p B).length (Pol.trim p B).length ∧ RowB w.heap.size w (some ⟨g, 0, none⟩) (Pol.trim p B)
  | 9, v => ∃ g, v = .slice (some ⟨g, 0, none⟩) 1 1 ∧ RowB w.heap.size w (some ⟨g, 0, none⟩) [1]
  | 10, v => ∃ g g', v = .agg #[.slice (some ⟨g, 0, none⟩) (Pol.trim p B).length (Pol.trim p B).length, .slice none 0 0, .slice (some ⟨g', 0, none⟩) 1 1] ∧ RowB w.heap.size w (some ⟨g, 0, none⟩) (Pol.trim p B) ∧ RowB w.heap.size w (some ⟨g', 0, none⟩) [1]
  | 11, v => ∃ t, v = .agg #[t 0, t 1, t 2] ∧ GEnd p A B w t
  | 12, v => ∃ g, v = .pointer (some ⟨g, 0, none⟩) ∧ W0.heap.size ≤ g ∧ w.rowIs g 68 3 nil3
  | _, _ => True

theorem gF_step {p b c1 c2 : Nat} {a1 a2 : Option Addr} {A B : List Int} {W0 w w' : World} (e : Below w.heap.size w w') : ∀ k u, gF p b c1 c2 a1 a2 A B W0 w k u → gF p b c1 c2 a1 a2 A B W0 w' k u := by
  have rb : ∀ {a : Option Addr} {zs : List Int}, RowB w.heap.size w a zs → RowB w'.heap.size w' a zs := fun r => (r.below e).mono e.size
  intro k u h
  match k, h with
  | 0, h => exact h
  | 1, h => exact h
  | 2, h => exact h
  | 3, h => obtain ⟨g, h1, h2⟩ := h; exact ⟨g, h1, rb h2⟩
  | 4, h => obtain ⟨g, h1, h2⟩ := h; exact ⟨g, h1, rb h2⟩
  | 5, h => obtain ⟨g, g', h1, h2, h4⟩ := h; exact ⟨g, g', h1, rb h2, rb h4⟩
  | 6, h => exact h
  | 7, h => exact h
  | 8, h => obtain ⟨g, h1, h2⟩ := h; exact ⟨g, h1, rb h2⟩
  | 9, h => obtain ⟨g, h1, h2⟩ := h; exact ⟨g, h1, rb h2⟩
  | 10, h => obtain ⟨g, g', h1, h2, h4⟩ := h; exact ⟨g, g', h1, rb h2, rb h4⟩
  | 11, h => obtain ⟨t, h1, h2⟩ := h; exact ⟨t, h1, h2.step e⟩
  | 12, h => obtain ⟨g, h1, h2, h4⟩ := h; exact ⟨g, h1, h2, h4.of_block (e.block g h4.lt)⟩
  | _ + 13, _ => trivial

def gFin (p : Nat) (A B : List Int) (W0 : World) (w : World) (σ : Nat → Value) : Prop := ∃ g t, σ 12 = .pointer (some ⟨g, 0, none⟩) ∧ W0.heap.size ≤ g ∧ w.rowIs g 68 3 t ∧ GEnd p A B w t

def gA (b N c1 c2 : Nat) (a1 a2 : Option Addr) (A B : List Int) (σ : Nat → Value) : Act :=
  { tmps := #[.pointer (some ⟨b, 0, none⟩), .slice a1 A.length c1, .slice a2 B.length c2, .pointer (some ⟨N, 0, none⟩), undef, undef, .slice none 0 0, .slice none 0 0, .slice none 0 0, σ 12, undef, undef,
      σ 0, σ 1, σ 2, σ 3, σ 4, σ 5, σ 6, σ 7, σ 8, σ 9, σ 10, σ 11,
      undef, undef, undef, undef, undef, undef, undef, undef, undef, undef, undef, undef, undef, undef, undef, undef, undef, undef, undef, undef, undef, undef, undef, undef, undef, undef, undef], defers := [] }

theorem one_cell_row (W : World) : RowB (W.alloc (.cells #[.int .i64 1] 3)).heap.size (W.alloc (.cells #[.int .i64 1] 3)) (some ⟨W.heap.size, 0, none⟩) [1] := fun j hj => by
  simp at hj; subst hj; exact ⟨W.heap.size, 0, rfl, by simp, by simp [zat]⟩

/-- a row of three values holds no list of numbers -/
theorem rowB_three {w : World} {g n : Nat} {t : TypeId} {a : Option Addr} {zs : List Int} (h : w.rowIs g t 3 nil3) (r : RowB n w a zs) (x y z : Value) : RowB n (((w.setCell ⟨g, 0, none⟩ x).setCell ⟨g, 1, none⟩ y).setCell ⟨g, 2, none⟩ z) a zs := fun k hk => by
  obtain ⟨bl, ol, h1, h2, h4⟩ := r k hk
  have hne : bl ≠ g := by
    rintro rfl
    obtain ⟨c, hb, hs, hc⟩ := h
    by_cases hlt : ol + k < 3
    · have h5 := hc (ol + k) hlt
      have h6 : w.cell? ⟨bl, ol + k, none⟩ = some (nil3 (ol + k)) := by simp [World.cell?, hb, h5]
      rw [h6] at h4
      have : ol + k = 0 ∨ ol + k = 1 ∨ ol + k = 2 := by omega
      rcases this with e | e | e <;> rw [e] at h4 <;> simp [nil3, tri] at h4
    · have h6 : w.cell? ⟨bl, ol + k, none⟩ = none := by
        simp only [World.cell?, hb]
        simp [Array.getElem?_eq_none (show c.size ≤ ol + k by omega)]
      rw [h6] at h4; cases h4
  refine ⟨bl, ol, h1, h2, ?_⟩
  rw [World.cell?_setCell_other _ _ _ _ (by intro e; exact hne (congrArg Addr.block e).symm), World.cell?_setCell_other _ _ _ _ (by intro e; exact hne (congrArg Addr.block e).symm), World.cell?_setCell_other _ _ _ _ (by intro e; exact hne (congrArg Addr.block e).symm)]
  exact h4

/-- what Gcd answers -/
def GRes (p : Nat) (A B d u v : List Int) : Prop :=
  ((Pol.trim p A).length = 0 ∧ (Pol.trim p B).length = 0 ∧ d = [] ∧ u = [] ∧ v = []) ∨
  (¬ ((Pol.trim p A).length = 0 ∧ (Pol.trim p B).length = 0) ∧ GE p A B d u v ∧ d.length ≤ A.length + B.length + 1 ∧ u.length ≤ A.length + B.length + 1 ∧ v.length ≤ A.length + B.length + 1)

set_option maxRecDepth 100000 in
set_option maxHeartbeats 8000000 in
theorem gcd_any (p b c1 c2 : Nat) (a1 a2 : Option Addr) (A B : List Int) (w : World) (hpr : Num.Prime p) (h3 : 3 ≤ p) (hm : p ≤ 2147483647) (hp : w.cell? ⟨b, 0, none⟩ = some (.int .i64 p))
    (hn : A.length + B.length ≤ 1048576) (hf1 : Fits A) (hf2 : Fits B) (hr1 : RowB w.heap.size w a1 A) (hr2 : RowB w.heap.size w a2 B) :
    Calls Tryd.prog 31 #[.pointer (some ⟨b, 0, none⟩), .slice a1 A.length c1, .slice a2 B.length c2] w fun e w' => ∃ (d u v : List Int) (ad au av : Option Addr) (cd cu cv : Nat),
      e = .returned (.tuple #[.slice ad d.length cd, .slice au u.length cu, .slice av v.length cv]) ∧ GRes p A B d u v ∧ Lst w'.heap.size w' ad cd d ∧ RowB w'.heap.size w' au u ∧ RowB w'.heap.size w' av v ∧ Below w.heap.size w w' := by
  have hb := heap_lt hp
  have HPR := hid hpr
  have HF1 := hid hf1
  have HF2 := hid hf2
  have HR1 := hid hr1
  have HR2 := hid hr2
  have HGI := hid (GI.start (p := p) h3 A B)
  have HBX : Hid ((w.alloc (.cells #[.pointer (some ⟨b, 0, none⟩)] 23)).cell? ⟨w.heap.size, 0, none⟩ = some (.pointer (some ⟨b, 0, none⟩))) := by unfold Hid; simp
  have HB0 : Hid (Below w.heap.size w (w.alloc (.cells #[.pointer (some ⟨b, 0, none⟩)] 23))) := (Below.refl w.heap.size w).alloc (Nat.le_refl _) _
  have hn0 : w.heap.size < (w.alloc (.cells #[.pointer (some ⟨b, 0, none⟩)] 23)).heap.size := by simp
  clear hpr hf1 hf2 hr1 hr2
  go_enter Tryd.func31, Tryd.ntmps31
  go_wp2_with fail
  generalize w.alloc (.cells #[.pointer (some ⟨b, 0, none⟩)] 23) = W0 at *
  have hmx : Tryd.prog.follows .mixedOrders = true := by kernel_rfl
  -- of every world of this statement
  have HC : Hid (∀ W : World, Below W0.heap.size W0 W → W.cell? ⟨w.heap.size, 0, none⟩ = some (.pointer (some ⟨b, 0, none⟩)) ∧ W.cell? ⟨b, 0, none⟩ = some (.int .i64 p) ∧ RowB W.heap.size W a1 A ∧ RowB W.heap.size W a2 B) := fun W hB => by
    have hbw := HB0.out.trans (hB.mono (Nat.le_of_lt hn0))
    exact ⟨(hB.cell (p := ⟨w.heap.size, 0, none⟩) hn0).trans HBX.out, (hbw.cell (p := ⟨b, 0, none⟩) hb).trans hp, (HR1.out.below hbw).mono hbw.size, (HR2.out.below hbw).mono hbw.size⟩
  refine wp_region_any hmx ?_
  refine wpAny_invC (KeepS 13 (gF p b c1 c2 a1 a2 A B W0) (gFin p A B W0) W0 (gA b w.heap.size c1 c2 a1 a2 A B)) ?step ?done (by kernel_rfl) _ _ ⟨⟨rfl, rfl, rfl, Nat.le_refl _, fun _ _ => rfl⟩, fun _ => undef, rfl, fun _ k hk hl => ?first, fun h => ?last⟩
  case first => 
    rcases Nat.lt_or_ge k 14 with g | g
    · simp [g] at hl
    · omega
  case last => simp at h
  case step =>
    intro L a W hcl hI i hi
    obtain ⟨hB, σ, rfl, ht, hfin⟩ := hI
    have hi14 : i < 14 := lt_of_ready hi
    have hun := unlisted_of_ready hi
    obtain ⟨hbx, hpc, hrA, hrB⟩ := HC.out W hB
    by_cases h13 : i = 13
    · subst h13
      obtain ⟨t, e11, hge⟩ := (ht hun) 11 (by omega) (dep_of_ready hcl hi (by kernel_rfl))
      obtain ⟨g, e12, hg0, hri⟩ := (ht hun) 12 (by omega) (dep_of_ready hcl hi (by kernel_rfl))
      have z0 := hri.cell (i := 0) (by omega)
      have z1 := hri.cell (i := 1) (by omega)
      have z2 := hri.cell (i := 2) (by omega)
      have y0 := hri.frozen 0
      have y1 := hri.frozen 1
      have y2 := hri.frozen 2
      have HE : Hid (GEnd p A B (((W.setCell ⟨g, 0, none⟩ (t 0)).setCell ⟨g, 1, none⟩ (t 1)).setCell ⟨g, 2, none⟩ (t 2)) t) := by
        obtain ⟨hs, hu, hv, nu, nv, s0, s1, s2, d0, d1, d2, q1, q2, q3, q4, q5⟩ := hge
        have hsz : (((W.setCell ⟨g, 0, none⟩ (t 0)).setCell ⟨g, 1, none⟩ (t 1)).setCell ⟨g, 2, none⟩ (t 2)).heap.size = W.heap.size := by simp only [World.size_setCell]
        exact ⟨hs, hu, hv, nu, nv, s0, s1, s2, d0, d1, d2, q1, q2, by rw [hsz]; exact rowB_three hri q3 _ _ _, by rw [hsz]; exact rowB_three hri q4 _ _ _, by rw [hsz]; exact rowB_three hri q5 _ _ _⟩
      have HRI : Hid ((((W.setCell ⟨g, 0, none⟩ (t 0)).setCell ⟨g, 1, none⟩ (t 1)).setCell ⟨g, 2, none⟩ (t 2)).rowIs g 68 3 t) := (row_three hri (t 0) (t 1) (t 2)).congr (fun i hi => by
        have : i = 0 ∨ i = 1 ∨ i = 2 := by omega
        rcases this with rfl | rfl | rfl <;> rfl)
      have HBS : Hid (Below W0.heap.size W0 (((W.setCell ⟨g, 0, none⟩ (t 0)).setCell ⟨g, 1, none⟩ (t 1)).setCell ⟨g, 2, none⟩ (t 2))) := ((hB.setCell (p := ⟨g, 0, none⟩) hg0 _).setCell (p := ⟨g, 1, none⟩) hg0 _).setCell (p := ⟨g, 2, none⟩) hg0 _
      obtain ⟨hs, hu, hv, nu, nv, s0, s1, s2, d0, d1, d2, q1, _⟩ := hge
      subst q1
      simp only [tri] at HE HRI HBS e11
      clear hri
      simp only [nil3, tri] at z0 z1 z2
      refine wpOp_step rfl (fun K' hK' => ?_)
      rw [if_pos (by rfl)]
      simp only [gA, e11, e12]
      go_simp
      refine hK' _ _ ⟨HBS.out, σ, by simp only [gA, e11, e12], fun h => ?_, fun _ => ⟨g, _, e12, hg0, HRI.out, HE.out⟩⟩
      have hsz : 13 < L.size := by
        rcases Nat.lt_or_ge 13 L.size with g | g
        · exact g
        · have := (mem_ready.1 hi).1
          simp [Array.getElem?_eq_none g] at this
      simp [hsz] at h
    · have hn13 : L.getD 13 false = false := by
        rcases hx : L.getD 13 false with _ | _
        · rfl
        · have : L.getD i false = true := by
            have hdd : depB .any _ 4 13 i = true → L.getD i false = true := fun hd => dep_listed hcl 4 13 hd (fun o ho => hcl 13 o ho hx)
            have h14 : i = 0 ∨ i = 1 ∨ i = 2 ∨ i = 3 ∨ i = 4 ∨ i = 5 ∨ i = 6 ∨ i = 7 ∨ i = 8 ∨ i = 9 ∨ i = 10 ∨ i = 11 ∨ i = 12 := by omega
            rcases h14 with rfl | rfl | rfl | rfl | rfl | rfl | rfl | rfl | rfl | rfl | rfl | rfl | rfl <;> exact hdd (by kernel_rfl)
          rw [hun] at this; cases this
      have hT := ht hn13
      clear ht hfin
      have h14 : i = 0 ∨ i = 1 ∨ i = 2 ∨ i = 3 ∨ i = 4 ∨ i = 5 ∨ i = 6 ∨ i = 7 ∨ i = 8 ∨ i = 9 ∨ i = 10 ∨ i = 11 ∨ i = 12 := by omega
      rcases h14 with rfl | rfl | rfl | rfl | rfl | rfl | rfl | rfl | rfl | rfl | rfl | rfl | rfl
      · -- 0
        refine wpOp_step rfl (fun K' hK' => ?_)
        rw [if_pos (by rfl)]
        simp only [gA]
        go_simp
        exact hK' _ _ (KeepS.next (i := 0) (v := .pointer (some ⟨b, 0, none⟩)) hB hn13 (by decide) hT (fun _ _ h => h) rfl rfl)
      · -- 1
        refine wpOp_step rfl (fun K' hK' => ?_)
        rw [if_pos (by rfl)]
        simp only [gA]
        go_simp
        exact hK' _ _ (KeepS.next (i := 1) (v := .pointer (some ⟨b, 0, none⟩)) hB hn13 (by decide) hT (fun _ _ h => h) rfl rfl)
      · -- 2
        refine wpOp_step rfl (fun K' hK' => ?_)
        rw [if_pos (by rfl)]
        simp only [gA]
        go_simp
        exact hK' _ _ (KeepS.next (i := 2) (v := .slice a1 A.length c1) hB hn13 (by decide) hT (fun _ _ h => h) rfl rfl)
      · -- 3
        have e1 := hT 1 (by omega) (dep_of_ready hcl hi (by kernel_rfl))
        have e2 := hT 2 (by omega) (dep_of_ready hcl hi (by kernel_rfl))
        simp only [gF] at e1 e2
        refine wpOp_step rfl (fun K' hK' => ?_)
        rw [if_pos (by rfl)]
        simp only [gA, e1, e2]
        go_simp
        refine (trim_any p b c1 (· < W.heap.size) a1 A W h3 hm hpc (by omega) HF1.out hrA (fun _ h => h)).mono ?_
        rintro e w' ⟨rfl, hc', hb', hs'⟩
        exact hK' _ _ (KeepS.next (i := 3) (v := .slice (some ⟨W.heap.size, 0, none⟩) (Pol.trim p A).length (Pol.trim p A).length) (hB.trans (hb'.mono hB.size)) hn13 (by decide) hT (gF_step hb') ⟨W.heap.size, rfl, hc'.row (Nat.le_refl _) (fun _ _ => rfl) (by omega)⟩ (by simp [gA, upd', e1, e2]))
      · -- 4
        refine wpOp_step rfl (fun K' hK' => ?_)
        rw [if_pos (by rfl)]
        simp only [gA]
        go_simp
        exact hK' _ _ (KeepS.next (i := 4) (v := .slice (some ⟨W.heap.size, 0, none⟩) 1 1) (hB.alloc hB.size _) hn13 (by decide) hT (gF_step ((Below.refl W.heap.size W).alloc (Nat.le_refl _) _)) ⟨W.heap.size, rfl, one_cell_row W⟩ rfl)
      · -- 5
        obtain ⟨g, e1, r1⟩ := hT 3 (by omega) (dep_of_ready hcl hi (by kernel_rfl))
        obtain ⟨g', e2, r2⟩ := hT 4 (by omega) (dep_of_ready hcl hi (by kernel_rfl))
        refine wpOp_step rfl (fun K' hK' => ?_)
        rw [if_pos (by rfl)]
        simp only [gA, e1, e2]
        go_simp
        exact hK' _ _ (KeepS.next (i := 5) (v := .agg #[.slice (some ⟨g, 0, none⟩) (Pol.trim p A).length (Pol.trim p A).length, .slice (some ⟨g', 0, none⟩) 1 1, .slice none 0 0]) hB hn13 (by decide) hT (fun _ _ h => h) ⟨g, g', rfl, r1, r2⟩ (by simp [gA, upd', e1, e2]))
      · -- 6
        refine wpOp_step rfl (fun K' hK' => ?_)
        rw [if_pos (by rfl)]
        simp only [gA]
        go_simp
        exact hK' _ _ (KeepS.next (i := 6) (v := .pointer (some ⟨b, 0, none⟩)) hB hn13 (by decide) hT (fun _ _ h => h) rfl rfl)
      · -- 7
        refine wpOp_step rfl (fun K' hK' => ?_)
        rw [if_pos (by rfl)]
        simp only [gA]
        go_simp
        exact hK' _ _ (KeepS.next (i := 7) (v := .slice a2 B.length c2) hB hn13 (by decide) hT (fun _ _ h => h) rfl rfl)
      · -- 8
        have e1 := hT 6 (by omega) (dep_of_ready hcl hi (by kernel_rfl))
        have e2 := hT 7 (by omega) (dep_of_ready hcl hi (by kernel_rfl))
        simp only [gF] at e1 e2
        refine wpOp_step rfl (fun K' hK' => ?_)
        rw [if_pos (by rfl)]
        simp only [gA, e1, e2]
        go_simp
        refine (trim_any p b c2 (· < W.heap.size) a2 B W h3 hm hpc (by omega) HF2.out hrB (fun _ h => h)).mono ?_
        rintro e w' ⟨rfl, hc', hb', hs'⟩
        exact hK' _ _ (KeepS.next (i := 8) (v := .slice (some ⟨W.heap.size, 0, none⟩) (Pol.trim p B).length (Pol.trim p B).length) (hB.trans (hb'.mono hB.size)) hn13 (by decide) hT (gF_step hb') ⟨W.heap.size, rfl, hc'.row (Nat.le_refl _) (fun _ _ => rfl) (by omega)⟩ (by simp [gA, upd', e1, e2]))
      · -- 9
        refine wpOp_step rfl (fun K' hK' => ?_)
        rw [if_pos (by rfl)]
        simp only [gA]
        go_simp
        exact hK' _ _ (KeepS.next (i := 9) (v := .slice (some ⟨W.heap.size, 0, none⟩) 1 1) (hB.alloc hB.size _) hn13 (by decide) hT (gF_step ((Below.refl W.heap.size W).alloc (Nat.le_refl _) _)) ⟨W.heap.size, rfl, one_cell_row W⟩ rfl)
      · -- 10
        obtain ⟨g, e1, r1⟩ := hT 8 (by omega) (dep_of_ready hcl hi (by kernel_rfl))
        obtain ⟨g', e2, r2⟩ := hT 9 (by omega) (dep_of_ready hcl hi (by kernel_rfl))
        refine wpOp_step rfl (fun K' hK' => ?_)
        rw [if_pos (by rfl)]
        simp only [gA, e1, e2]
        go_simp
        exact hK' _ _ (KeepS.next (i := 10) (v := .agg #[.slice (some ⟨g, 0, none⟩) (Pol.trim p B).length (Pol.trim p B).length, .slice none 0 0, .slice (some ⟨g', 0, none⟩) 1 1]) hB hn13 (by decide) hT (fun _ _ h => h) ⟨g, g', rfl, r1, r2⟩ (by simp [gA, upd', e1, e2]))
      · -- 11
        have e0 := hT 0 (by omega) (dep_of_ready hcl hi (by kernel_rfl))
        simp only [gF] at e0
        obtain ⟨g, g', e1, r1, r2⟩ := hT 5 (by omega) (dep_of_ready hcl hi (by kernel_rfl))
        obtain ⟨k, k', e2, r4, r5⟩ := hT 10 (by omega) (dep_of_ready hcl hi (by kernel_rfl))
        have HLR := hid (lastrow_any p b (A.length + B.length + 1) A B (Pol.trim p A) [1] [] (Pol.trim p B) [] [1] (some ⟨g, 0, none⟩) (some ⟨g', 0, none⟩) none (some ⟨k, 0, none⟩) none (some ⟨k', 0, none⟩) (Pol.trim p A).length 1 0 (Pol.trim p B).length 0 1 W HPR.out h3 hm hpc (by omega) HGI.out r1 r2 (fun j hj => by simp at hj) r4 (fun j hj => by simp at hj) r5)
        refine wpOp_step rfl (fun K' hK' => ?_)
        rw [if_pos (by rfl)]
        simp only [gA, e0, e1, e2]
        go_simp
        refine HLR.out.mono ?_
        rintro e w' ⟨hs, hu, hv, nu, nv, s0, s1, s2, d0, d1, d2, rfl, q2, q3, q4, q5, hb'⟩
        exact hK' _ _ (KeepS.next (i := 11) (v := .agg #[.slice s0 hs.length d0, .slice s1 hu.length d1, .slice s2 hv.length d2]) (hB.trans (hb'.mono hB.size)) hn13 (by decide) hT (gF_step hb') ⟨tri (.slice s0 hs.length d0) (.slice s1 hu.length d1) (.slice s2 hv.length d2), rfl, hs, hu, hv, nu, nv, s0, s1, s2, d0, d1, d2, rfl, q2, q3, q4, q5⟩ (by simp [gA, upd', e0, e1, e2]))
      · -- 12
        refine wpOp_step rfl (fun K' hK' => ?_)
        rw [if_pos (by rfl)]
        simp only [gA]
        go_simp
        exact hK' _ _ (KeepS.next (i := 12) (v := .pointer (some ⟨W.heap.size, 0, none⟩)) (hB.alloc hB.size _) hn13 (by decide) hT (gF_step ((Below.refl W.heap.size W).alloc (Nat.le_refl _) _)) ⟨W.heap.size, rfl, hB.size, World.rowIs_alloc W #[.slice none 0 0, .slice none 0 0, .slice none 0 0] _ _ (fun i hi => by
          have : i = 0 ∨ i = 1 ∨ i = 2 := by simp at hi; omega
          rcases this with rfl | rfl | rfl <;> rfl)⟩ rfl)
  case done =>
    intro L a W hall hI
    obtain ⟨hB, σ, rfl, _, hfin⟩ := hI
    obtain ⟨g, t, e12, hg0, hri, hge⟩ := hfin (hall 13 (by decide))
    obtain ⟨hs, hu, hv, nu, nv, s0, s1, s2, d0, d1, d2, rfl, q2, q3, q4, q5⟩ := hge
    simp only [gA, e12]
    have z0 := hri.cell (i := 0) (by omega)
    have z1 := hri.cell (i := 1) (by omega)
    have z2 := hri.cell (i := 2) (by omega)
    simp only [tri] at z0 z1 z2
    by_cases hz : hs.length = 0
    · have HN := hid (GI.none q2 hz)
      have HBW : Hid (Below w.heap.size w W) := HB0.out.trans (hB.mono (Nat.le_of_lt hn0))
      have hzb : ((hs.length : Int) == 0) = true := by rw [beq_iff_eq]; omega
      clear hz q2 q3 q4 q5 hri hB
      go_wp2_with fail
      go_ret3
      first
        | exact ⟨[], [], [], none, none, none, 0, 0, 0, rfl, Or.inl ⟨HN.out.1, HN.out.2, rfl, rfl, rfl⟩, Lst.none _ _, fun k hk => by simp at hk, fun k hk => by simp at hk, HBW.out⟩
        | exact ⟨[], [], [], none, none, none, 0, ⟨0, 0, rfl⟩, Or.inl ⟨HN.out.1, HN.out.2, rfl, rfl, rfl⟩, Lst.none _ _, fun k hk => by simp at hk, fun k hk => by simp at hk, HBW.out⟩
    · have hzb : ((hs.length : Int) == 0) = false := by rw [beq_eq_false_iff_ne]; omega
      have hz0 : 0 < hs.length := by omega
      obtain ⟨n1, hn1⟩ : ∃ n1, n1 = hs.length - 1 := ⟨_, rfl⟩
      have e1 : (hs.length : Int) - 1 = (n1 : Int) := by omega
      have e2 : (n1 : Int) < (hs.length : Int) := by omega
      obtain ⟨bl, ol, rfl, hbl, hcl'⟩ := q3 n1 (by omega)
      have HGE := hid (GI.done HPR.out h3 q2 hz0)
      have HNZ := hid (GI.some q2 hz0)
      rw [← hn1] at HGE
      have hls := (fits_of_can hm q2.chs) n1 (by omega)
      obtain ⟨l, hl⟩ : ∃ l, l = zat hs n1 := ⟨_, rfl⟩
      rw [← hl] at HGE hcl' hls
      have hglt := hri.lt
      have HV : Hid (∀ V : World, Below W.heap.size W V → V.cell? ⟨w.heap.size, 0, none⟩ = some (.pointer (some ⟨b, 0, none⟩)) ∧ V.cell? ⟨g, 0, none⟩ = some (.slice (some ⟨bl, ol, none⟩) hs.length d0) ∧ V.cell? ⟨bl, ol + n1, none⟩ = some (.int .i64 l)) := fun V hC => by
        obtain ⟨hbx, _, _, _⟩ := HC.out W hB
        have hwlt : w.heap.size < W.heap.size := by have := hB.size; omega
        exact ⟨(hC.cell (p := ⟨w.heap.size, 0, none⟩) hwlt).trans hbx, (hC.cell (p := ⟨g, 0, none⟩) hglt).trans z0, (hC.cell (p := ⟨bl, ol + n1, none⟩) hbl).trans hcl'⟩
      have HI : Hid (∀ V : World, Below W.heap.size W V → Calls Tryd.prog 41 #[.pointer (some ⟨b, 0, none⟩), .int .i64 l] V fun e w' => e = .returned (.int .i64 (invn p l : Int)) ∧ w' = V) := fun V hC => by
        obtain ⟨_, hpc, _, _⟩ := HC.out V (hB.trans (hC.mono hB.size))
        have := inv_any p b l V h3 hm hpc hls.1 hls.2
        rw [inv_ref p l HPR.out h3] at this
        exact this
      have hn1b : n1 ≤ 1048577 := by have := q2.b1; omega
      have hslb : hs.length ≤ 1048577 := by have := q2.b1; omega
      have hivl := invn_lt p l h3
      have hM1 := q2.b1
      have hM2 := q2.b2
      have hM4 := q2.b4
      have HFI : Hid (Fits hs ∧ Fits hu ∧ Fits hv) := ⟨fits_of_can hm q2.chs, fits_of_can hm q2.chu, fits_of_can hm q2.chv⟩
      have HRS : Hid (RowB W.heap.size W (some ⟨bl, ol, none⟩) hs ∧ RowB W.heap.size W s1 hu ∧ RowB W.heap.size W s2 hv) := ⟨q3, q4, q5⟩
      have HBB := hid hB
      generalize invn p l = iv at *
      clear q2 q3 q4 q5 hcl' hl hn1
      go_wp2_with fail
      refine wp_region_S (C := fun V => Below W.heap.size W V) (st := [11]) hmx ?_
      have hC0 : Below W.heap.size W W.drew := (Below.refl _ _).drew
      show wpAnyS _ _ _ _ _ _ 12 (Array.replicate 12 false) _ _
      refine wpAnyS_take (i := 0) (v := .pointer (some ⟨b, 0, none⟩)) rfl (by kernel_rfl) (by kernel_rfl) (by kernel_rfl) (by kernel_rfl) (by kernel_rfl) (by kernel_rfl) (fun _ _ _ h => h) (Or.inl ⟨by rfl, fun V hC => ?_⟩) hC0 ?_
      · obtain ⟨s1', s2', s3'⟩ := HV.out V hC
        clear hC
        go_simp
      refine wpAnyS_pure (i := 1) (v := .pointer (some ⟨g, 0, none⟩)) rfl (by kernel_rfl) (by kernel_rfl) (by kernel_rfl) (by kernel_rfl) (fun _ _ _ h => h) (Or.inl ⟨by rfl, fun V _ => ?_⟩) (fun _ => hC0) ?_
      · go_simp
      refine wpAnyS_take (i := 2) (v := .slice (some ⟨bl, ol, none⟩) hs.length d0) rfl (by kernel_rfl) (by kernel_rfl) (by kernel_rfl) (by kernel_rfl) (by kernel_rfl) (by kernel_rfl) (fun _ _ _ h => h) (Or.inl ⟨by rfl, fun V hC => ?_⟩) hC0 ?_
      · obtain ⟨s1', s2', s3'⟩ := HV.out V hC
        clear hC
        go_simp
      refine wpAnyS_pure (i := 3) (v := .pointer (some ⟨g, 0, none⟩)) rfl (by kernel_rfl) (by kernel_rfl) (by kernel_rfl) (by kernel_rfl) (fun _ _ _ h => h) (Or.inl ⟨by rfl, fun V _ => ?_⟩) (fun _ => hC0) ?_
      · go_simp
      refine wpAnyS_take (i := 4) (v := .slice (some ⟨bl, ol, none⟩) hs.length d0) rfl (by kernel_rfl) (by kernel_rfl) (by kernel_rfl) (by kernel_rfl) (by kernel_rfl) (by kernel_rfl) (fun _ _ _ h => h) (Or.inl ⟨by rfl, fun V hC => ?_⟩) hC0 ?_
      · obtain ⟨s1', s2', s3'⟩ := HV.out V hC
        clear hC
        go_simp
      refine wpAnyS_pure (i := 5) (v := .int .i64 (hs.length : Int)) rfl (by kernel_rfl) (by kernel_rfl) (by kernel_rfl) (by kernel_rfl) (fun _ _ _ h => h) (Or.inl ⟨by rfl, fun V _ => ?_⟩) (fun _ => hC0) ?_
      · go_simp
      refine wpAnyS_pure (i := 6) (v := .int .i64 (n1 : Int)) rfl (by kernel_rfl) (by kernel_rfl) (by kernel_rfl) (by kernel_rfl) (fun _ _ _ h => h) (Or.inl ⟨by rfl, fun V _ => ?_⟩) (fun _ => hC0) ?_
      · go_simp
        rw [IntKind.wrap_i64]
        omega
      refine wpAnyS_pure (i := 7) (v := .pointer (some ⟨bl, ol + n1, none⟩)) rfl (by kernel_rfl) (by kernel_rfl) (by kernel_rfl) (by kernel_rfl) (fun _ _ _ h => h) (Or.inl ⟨by rfl, fun V _ => ?_⟩) (fun _ => hC0) ?_
      · go_simp
      refine wpAnyS_take (i := 8) (v := .int .i64 l) rfl (by kernel_rfl) (by kernel_rfl) (by kernel_rfl) (by kernel_rfl) (by kernel_rfl) (by kernel_rfl) (fun _ _ _ h => h) (Or.inl ⟨by rfl, fun V hC => ?_⟩) hC0 ?_
      · obtain ⟨s1', s2', s3'⟩ := HV.out V hC
        clear hC
        go_simp
      refine wpAnyS_two (i := 9) (j := 10) (by kernel_rfl) ?oA ?oB
      case' oA =>
        refine wpOp_step rfl (fun K' hK' => ?_)
        rw [if_pos (by rfl)]
        go_simp
        refine (HI.out _ hC0).mono ?_
        rintro e w3 ⟨rfl, rfl⟩
        refine hK' _ _ ⟨fun _ => hC0, ?_⟩
        clear hK' K'
        refine wpAnyS_one (i := 10) (by kernel_rfl) ?_
        refine wpOp_step rfl (fun K' hK' => ?_)
        rw [if_pos (by rfl)]
        go_simp
        refine hK' _ _ ⟨fun _ => hC0.alloc (Nat.le_refl _) _, ?_⟩
        clear hK' K'
      case' oB =>
        refine wpOp_step rfl (fun K' hK' => ?_)
        rw [if_pos (by rfl)]
        go_simp
        refine hK' _ _ ⟨fun _ => hC0.alloc (Nat.le_refl _) _, ?_⟩
        clear hK' K'
        refine wpAnyS_one (i := 9) (by kernel_rfl) ?_
        refine wpOp_step rfl (fun K' hK' => ?_)
        rw [if_pos (by rfl)]
        go_simp
        refine (HI.out _ (hC0.alloc (Nat.le_refl _) _)).mono ?_
        rintro e w3 ⟨rfl, rfl⟩
        refine hK' _ _ ⟨fun _ => hC0.alloc (Nat.le_refl _) _, ?_⟩
        clear hK' K'
      all_goals
        refine wpAnyS_one (i := 11) (by kernel_rfl) ?_
        refine wpOp_step rfl (fun K' hK' => ?_)
        rw [if_pos (by rfl)]
        go_simp
        refine hK' _ _ ⟨fun h => absurd (h 11 (by simp)) (by decide), ?_⟩
        clear hK' K'
        refine wpAnyS_done (by kernel_rfl) ?_ _
        clear hC0
        go_wp2_with fail
        generalize hV0 : (W.alloc (.cells #[.int .i64 (iv : Int)] 3)).drew = V0 at *
        have hV0b : Below W.heap.size W V0 := by rw [← hV0]; exact ((Below.refl W.heap.size W).alloc (Nat.le_refl _) _).drew
        have hV0s : W.heap.size < V0.heap.size := by rw [← hV0]; simp
        have hV0c : V0.cell? ⟨W.heap.size, 0, none⟩ = some (.int .i64 (iv : Int)) := by rw [← hV0]; simp
        have HV2 : Hid (∀ V : World, Below V0.heap.size V0 V → V.cell? ⟨g, 0, none⟩ = some (.slice (some ⟨bl, ol, none⟩) hs.length d0) ∧ V.cell? ⟨g, 1, none⟩ = some (.slice s1 hu.length d1) ∧ V.cell? ⟨g, 2, none⟩ = some (.slice s2 hv.length d2)) := fun V hC => by
          have hg1 : g < V0.heap.size := by omega
          exact ⟨(hC.cell (p := ⟨g, 0, none⟩) hg1).trans ((hV0b.cell (p := ⟨g, 0, none⟩) hglt).trans z0), (hC.cell (p := ⟨g, 1, none⟩) hg1).trans ((hV0b.cell (p := ⟨g, 1, none⟩) hglt).trans z1), (hC.cell (p := ⟨g, 2, none⟩) hg1).trans ((hV0b.cell (p := ⟨g, 2, none⟩) hglt).trans z2)⟩
        have HSC : Hid (∀ (a : Option Addr) (c : Nat) (zs : List Int), RowB W.heap.size W a zs → Fits zs → zs.length ≤ A.length + B.length + 1 → ∀ V : World, Below V0.heap.size V0 V → Calls Tryd.prog 58 #[.slice a zs.length c, .pointer (some ⟨w.heap.size, 0, none⟩), .pointer (some ⟨W.heap.size, 0, none⟩)] V fun e w' => ∃ a' c',
            e = .returned (.slice a' (Pol.pmul p zs [(iv : Int)]).length c') ∧ NewR V.heap.size w' a' (Pol.pmul p zs [(iv : Int)]) ∧ ((Pol.pmul p zs [(iv : Int)]).length ≤ c' ∧ (a' = none → c' = 0)) ∧ Below V.heap.size V w') := fun a c zs hr hf hl V hC => by
          have hWV : Below W.heap.size W V := hV0b.trans (hC.mono (Nat.le_of_lt hV0s))
          obtain ⟨hbx, hpc, _, _⟩ := HC.out V (HBB.out.trans (hWV.mono HBB.out.size))
          exact scaled_any p b w.heap.size W.heap.size c a zs (iv : Int) V HPR.out h3 hm hpc hbx ((hC.cell (p := ⟨W.heap.size, 0, none⟩) hV0s).trans hV0c) (by omega) (by omega) (by omega) hf ((hr.below hWV).mono hWV.size)
        have HS0 := hid (HSC.out (some ⟨bl, ol, none⟩) d0 hs HRS.out.1 HFI.out.1 (by omega))
        have HS1 := hid (HSC.out s1 d1 hu HRS.out.2.1 HFI.out.2.1 (by omega))
        have HS2 := hid (HSC.out s2 d2 hv HRS.out.2.2 HFI.out.2.2 (by omega))
        have HLD : Hid ((Pol.pmul p hs [(iv : Int)]).length ≤ A.length + B.length + 1 ∧ (Pol.pmul p hu [(iv : Int)]).length ≤ A.length + B.length + 1 ∧ (Pol.pmul p hv [(iv : Int)]).length ≤ A.length + B.length + 1) := by
          have x1 := Pol.pmul_le p hs [(iv : Int)]
          have x2 := Pol.pmul_le p hu [(iv : Int)]
          have x3 := Pol.pmul_le p hv [(iv : Int)]
          simp at x1 x2 x3
          exact ⟨by omega, by omega, by omega⟩
        have HBV : Hid (Below w.heap.size w V0) := HB0.out.trans ((HBB.out.trans (hV0b.mono HBB.out.size)).mono (Nat.le_of_lt hn0))
        clear hV0 HSC
        generalize Pol.pmul p hs [(iv : Int)] = D at *
        generalize Pol.pmul p hu [(iv : Int)] = U at *
        generalize Pol.pmul p hv [(iv : Int)] = Vv at *
        refine wp_region_S (C := fun V => Below V0.heap.size V0 V) (st := []) hmx ?_
        have hC1 : Below V0.heap.size V0 V0.drew := (Below.refl _ _).drew
        show wpAnyS _ _ _ _ _ _ 15 (Array.replicate 15 false) _ _
        refine wpAnyS_pure (i := 0) (v := .func (.func 58) #[] #[.pointer (some ⟨w.heap.size, 0, none⟩), .pointer (some ⟨W.heap.size, 0, none⟩)]) rfl (by kernel_rfl) (by kernel_rfl) (by kernel_rfl) (by kernel_rfl) (fun _ _ _ h => h) (Or.inl ⟨by rfl, fun V _ => ?_⟩) (fun _ => hC1) ?_
        · go_simp
        refine wpAnyS_pure (i := 1) (v := .pointer (some ⟨g, 0, none⟩)) rfl (by kernel_rfl) (by kernel_rfl) (by kernel_rfl) (by kernel_rfl) (fun _ _ _ h => h) (Or.inl ⟨by rfl, fun V _ => ?_⟩) (fun _ => hC1) ?_
        · go_simp
        refine wpAnyS_take (i := 2) (v := .slice (some ⟨bl, ol, none⟩) hs.length d0) rfl (by kernel_rfl) (by kernel_rfl) (by kernel_rfl) (by kernel_rfl) (by kernel_rfl) (by kernel_rfl) (fun _ _ _ h => h) (Or.inl ⟨by rfl, fun V hC => ?_⟩) hC1 ?_
        · obtain ⟨s1', s2', s3'⟩ := HV2.out V hC
          clear hC
          go_simp
        refine wpAnyS_pure (i := 4) (v := .func (.func 58) #[] #[.pointer (some ⟨w.heap.size, 0, none⟩), .pointer (some ⟨W.heap.size, 0, none⟩)]) rfl (by kernel_rfl) (by kernel_rfl) (by kernel_rfl) (by kernel_rfl) (fun _ _ _ h => h) (Or.inl ⟨by rfl, fun V _ => ?_⟩) (fun _ => hC1) ?_
        · go_simp
        refine wpAnyS_pure (i := 5) (v := .pointer (some ⟨g, 1, none⟩)) rfl (by kernel_rfl) (by kernel_rfl) (by kernel_rfl) (by kernel_rfl) (fun _ _ _ h => h) (Or.inl ⟨by rfl, fun V _ => ?_⟩) (fun _ => hC1) ?_
        · go_simp
        refine wpAnyS_take (i := 6) (v := .slice s1 hu.length d1) rfl (by kernel_rfl) (by kernel_rfl) (by kernel_rfl) (by kernel_rfl) (by kernel_rfl) (by kernel_rfl) (fun _ _ _ h => h) (Or.inl ⟨by rfl, fun V hC => ?_⟩) hC1 ?_
        · obtain ⟨s1', s2', s3'⟩ := HV2.out V hC
          clear hC
          go_simp
        refine wpAnyS_pure (i := 8) (v := .func (.func 58) #[] #[.pointer (some ⟨w.heap.size, 0, none⟩), .pointer (some ⟨W.heap.size, 0, none⟩)]) rfl (by kernel_rfl) (by kernel_rfl) (by kernel_rfl) (by kernel_rfl) (fun _ _ _ h => h) (Or.inl ⟨by rfl, fun V _ => ?_⟩) (fun _ => hC1) ?_
        · go_simp
        refine wpAnyS_pure (i := 9) (v := .pointer (some ⟨g, 2, none⟩)) rfl (by kernel_rfl) (by kernel_rfl) (by kernel_rfl) (by kernel_rfl) (fun _ _ _ h => h) (Or.inl ⟨by rfl, fun V _ => ?_⟩) (fun _ => hC1) ?_
        · go_simp
        refine wpAnyS_take (i := 10) (v := .slice s2 hv.length d2) rfl (by kernel_rfl) (by kernel_rfl) (by kernel_rfl) (by kernel_rfl) (by kernel_rfl) (by kernel_rfl) (fun _ _ _ h => h) (Or.inl ⟨by rfl, fun V hC => ?_⟩) hC1 ?_
        · obtain ⟨s1', s2', s3'⟩ := HV2.out V hC
          clear hC
          go_simp
        refine wpAnyS_one (i := 3) (by kernel_rfl) ?_
        refine wpOp_step rfl (fun K' hK' => ?_)
        rw [if_pos (by rfl)]
        go_simp
        refine (HS0.out _ hC1).mono ?_
        rintro e w3 ⟨a3, e3, rfl, hn3, hm3, hb3⟩
        have hC3 : Below V0.heap.size V0 w3 := hC1.trans (hb3.mono hC1.size)
        refine hK' _ _ ⟨fun _ => hC3, ?_⟩
        clear hK' K'
        refine wpAnyS_one (i := 7) (by kernel_rfl) ?_
        refine wpOp_step rfl (fun K' hK' => ?_)
        rw [if_pos (by rfl)]
        go_simp
        refine (HS1.out _ hC3).mono ?_
        rintro e w4 ⟨a4, e4, rfl, hn4, hm4, hb4⟩
        have hC4 : Below V0.heap.size V0 w4 := hC3.trans (hb4.mono hC3.size)
        have hn3' := hn3.below hb4
        refine hK' _ _ ⟨fun _ => hC4, ?_⟩
        clear hK' K'
        refine wpAnyS_one (i := 11) (by kernel_rfl) ?_
        refine wpOp_step rfl (fun K' hK' => ?_)
        rw [if_pos (by rfl)]
        go_simp
        refine (HS2.out _ hC4).mono ?_
        rintro e w5 ⟨a5, e5, rfl, hn5, hm5, hb5⟩
        have hC5 : Below V0.heap.size V0 w5 := hC4.trans (hb5.mono hC4.size)
        have hn3'' := hn3'.below hb5
        have hn4' := hn4.below hb5
        refine hK' _ _ ⟨fun _ => hC5, ?_⟩
        clear hK' K'
        have HX3 : Hid (Lst w5.heap.size w5 a3 e3 D) := ⟨hn3''.row, hm3.1, hm3.2⟩
        have HX4 := hid hn4'.row
        have HX5 := hid hn5.row
        have HEND : Hid (Below w.heap.size w w5) := HBV.out.trans (hC5.mono HBV.out.size)
        refine wpAnyS_pure (i := 12) (v := .slice a3 D.length e3) rfl (by kernel_rfl) (by kernel_rfl) (by kernel_rfl) (by kernel_rfl) (fun _ _ _ h => h) (Or.inl ⟨by rfl, fun V _ => ?_⟩) (fun _ => hC5) ?_
        · go_simp
        refine wpAnyS_pure (i := 13) (v := .slice a4 U.length e4) rfl (by kernel_rfl) (by kernel_rfl) (by kernel_rfl) (by kernel_rfl) (fun _ _ _ h => h) (Or.inl ⟨by rfl, fun V _ => ?_⟩) (fun _ => hC5) ?_
        · go_simp
        refine wpAnyS_pure (i := 14) (v := .slice a5 Vv.length e5) rfl (by kernel_rfl) (by kernel_rfl) (by kernel_rfl) (by kernel_rfl) (fun _ _ _ h => h) (Or.inl ⟨by rfl, fun V _ => ?_⟩) (fun _ => hC5) ?_
        · go_simp
        refine wpAnyS_done (by kernel_rfl) ?_ _
        clear hn3 hn3' hn3'' hn4 hn4' hn5 hm3 hm4 hm5 hb3 hb4 hb5 hC1 hC3 hC4 hC5
        go_wp2_with fail
        go_ret3
        first
          | exact ⟨D, U, Vv, a3, a4, a5, e3, e4, e5, rfl, Or.inr ⟨HNZ.out, HGE.out, HLD.out.1, HLD.out.2.1, HLD.out.2.2⟩, HX3.out, HX4.out, HX5.out, HEND.out⟩
          | exact ⟨D, U, Vv, a3, a4, a5, e3, ⟨e4, e5, rfl⟩, Or.inr ⟨HNZ.out, HGE.out, HLD.out.1, HLD.out.2.1, HLD.out.2.2⟩, HX3.out, HX4.out, HX5.out, HEND.out⟩
end Go.Proofs.YtfombbbiilalpabDoor
