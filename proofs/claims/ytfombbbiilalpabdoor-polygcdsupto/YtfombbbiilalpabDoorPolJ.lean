/- What package poly's lastRow answers. -/
import Derived.Test.YtfombbbiilalpabDoorPolI
import Derived.Test.YtfombbbiilalpabDoorGcdP
import Derived.Test.YtfombbbiilalpabDoorHeldS
namespace Go.Proofs.YtfombbbiilalpabDoor
open Go.RowKit

def tri (a b c : Value) : Nat → Value
  | 0 => a
  | 1 => b
  | _ => c

/-- the boxes of lastRow -/
structure GM (N b : Nat) (h n : Nat → Value) (W : World) : Prop where
  fb : W.rowIs N 23 1 (fun _ => .pointer (some ⟨b, 0, none⟩))
  hb : W.rowIs (N + 1) 68 3 h
  nb : W.rowIs (N + 2) 68 3 n
  rb : ∃ r, W.rowIs (N + 3) 68 3 r

theorem GM.below {N b : Nat} {h n : Nat → Value} {W W' : World} {n0 : Nat} (g : GM N b h n W) (e : Below n0 W W') (hn : N + 3 < n0) : GM N b h n W' :=
  ⟨g.fb.of_block (e.block _ (by omega)), g.hb.of_block (e.block _ (by omega)), g.nb.of_block (e.block _ (by omega)), by obtain ⟨r, hr⟩ := g.rb; exact ⟨r, hr.of_block (e.block _ (by omega))⟩⟩

/-- a list that lies in none of the boxes -/
def RowQ (N : Nat) (w : World) (a : Option Addr) (zs : List Int) : Prop := RowP (fun b => b < w.heap.size ∧ (b < N ∨ N + 3 < b)) w a zs
theorem RowQ.row {N : Nat} {w : World} {a : Option Addr} {zs : List Int} (h : RowQ N w a zs) : RowB w.heap.size w a zs := fun k hk => by
  obtain ⟨b, o, h1, h2, h3⟩ := h k hk
  exact ⟨b, o, h1, h2.1, h3⟩
theorem RowQ.below {N : Nat} {w w' : World} {a : Option Addr} {zs : List Int} (h : RowQ N w a zs) (e : Below w.heap.size w w') : RowQ N w' a zs := fun k hk => by
  obtain ⟨b, o, h1, h2, h3⟩ := h k hk
  exact ⟨b, o, h1, ⟨Nat.lt_of_lt_of_le h2.1 e.size, h2.2⟩, (e.cell (p := ⟨b, o + k, none⟩) h2.1).trans h3⟩
theorem NewR.q {N n0 : Nat} {w : World} {a : Option Addr} {zs : List Int} (h : NewR n0 w a zs) (hn : N + 3 < n0) : RowQ N w a zs := fun k hk => by
  obtain ⟨b, o, h1, h2, h3⟩ := h k hk
  exact ⟨b, o, h1, ⟨h2.2, Or.inr (by have := h2.1; omega)⟩, h3⟩
theorem RowQ.far {N : Nat} {w : World} {a : Option Addr} {zs : List Int} (h : RowQ N w a zs) {p : Addr} (h1 : N ≤ p.block) (h2 : p.block ≤ N + 3) (v : Value) : RowQ N (w.setCell p v) a zs := fun k hk => by
  obtain ⟨b, o, e1, e2, e3⟩ := h k hk
  refine ⟨b, o, e1, by simpa [World.setCell] using e2, ?_⟩
  rw [World.cell?_setCell_other _ _ _ _ (by intro e; have := congrArg Addr.block e; simp at this; omega)]
  exact e3

/-- both rows stored -/
def six (N : Nat) (v0 v1 v2 u0 u1 u2 : Value) (W : World) : World :=
  (((((W.setCell ⟨N + 1, 0, none⟩ v0).setCell ⟨N + 1, 1, none⟩ v1).setCell ⟨N + 1, 2, none⟩ v2).setCell ⟨N + 1 + 1, 0, none⟩ u0).setCell ⟨N + 1 + 1, 1, none⟩ u1).setCell ⟨N + 1 + 1, 2, none⟩ u2

theorem row_three {W : World} {g : Nat} {t : TypeId} {f : Nat → Value} (h : W.rowIs g t 3 f) (a b c : Value) : (((W.setCell ⟨g, 0, none⟩ a).setCell ⟨g, 1, none⟩ b).setCell ⟨g, 2, none⟩ c).rowIs g t 3 (tri a b c) :=
  (((h.set 0 a).set 1 b).set 2 c).congr (fun i hi => by
    have : i = 0 ∨ i = 1 ∨ i = 2 := by omega
    rcases this with rfl | rfl | rfl <;> simp [tri])

theorem row_arr {W : World} {g : Nat} {t : TypeId} {a b c : Value} (h : W.rowIs g t 3 (tri a b c)) : W.heap[g]? = some (.cells #[a, b, c] t (0, 0)) := by
  obtain ⟨cs, h1, h2, h4⟩ := h
  rw [h1]
  have e : cs = #[a, b, c] := by
    apply Array.ext
    · simpa using h2
    · intro i hi hi2
      have h0 : i = 0 ∨ i = 1 ∨ i = 2 := by omega
      have h5 := h4 i (by omega)
      rw [Array.getElem?_eq_getElem hi] at h5
      have h6 := Option.some.inj h5
      rw [h6]
      rcases h0 with rfl | rfl | rfl <;> rfl
  rw [e]

theorem gm_six {N b : Nat} {h n : Nat → Value} {W : World} (g : GM N b h n W) {v0 v1 v2 u0 u1 u2 : Value} : GM N b (tri v0 v1 v2) (tri u0 u1 u2) (six N v0 v1 v2 u0 u1 u2 W) := by
  unfold six
  refine ⟨?_, ?_, ?_, ?_⟩
  · exact (((((g.fb.setOther (by simp) _).setOther (by simp) _).setOther (by simp) _).setOther (by simp; omega) _).setOther (by simp; omega) _).setOther (by simp; omega) _
  · exact (((row_three g.hb v0 v1 v2).setOther (by simp) _).setOther (by simp) _).setOther (by simp) _
  · exact row_three (((g.nb.setOther (by simp) _).setOther (by simp) _).setOther (by simp) _) u0 u1 u2
  · obtain ⟨r, hr⟩ := g.rb
    exact ⟨r, (((((hr.setOther (by simp) _).setOther (by simp) _).setOther (by simp) _).setOther (by simp) _).setOther (by simp) _).setOther (by simp) _⟩

theorem RowQ.six {N : Nat} {w : World} {a : Option Addr} {zs : List Int} (h : RowQ N w a zs) {v0 v1 v2 u0 u1 u2 : Value} : RowQ N (six N v0 v1 v2 u0 u1 u2 w) a zs := by
  unfold Go.Proofs.YtfombbbiilalpabDoor.six
  exact (((((h.far (by simp) (by simp) _).far (by simp) (by simp) _).far (by simp) (by simp) _).far (by simp; omega) (by simp) _).far (by simp; omega) (by simp) _).far (by simp; omega) (by simp) _

theorem below_six {N : Nat} {w W : World} (h : Below N w W) {v0 v1 v2 u0 u1 u2 : Value} : Below N w (six N v0 v1 v2 u0 u1 u2 W) := by
  unfold six
  exact (((((h.setCell (by simp) _).setCell (by simp) _).setCell (by simp) _).setCell (by simp; omega) _).setCell (by simp; omega) _).setCell (by simp; omega) _
theorem six_size {N : Nat} {W : World} {v0 v1 v2 u0 u1 u2 : Value} : (six N v0 v1 v2 u0 u1 u2 W).heap.size = W.heap.size := by simp [six, World.setCell]

def lenAt (wr : World) (a : Addr) : Nat := match wr.cell? a with | some (.slice _ n _) => n | _ => 0

set_option maxRecDepth 100000 in
set_option maxHeartbeats 4000000 in
theorem lastrow_any (p b M : Nat) (A B hs hu hv ns nu nv : List Int) (as0 au0 av0 an0 am0 ao0 : Option Addr) (c0 c1 c2 c3 c4 c5 : Nat) (w : World) (hpr : Num.Prime p) (h3 : 3 ≤ p) (hm : p ≤ 2147483647) (hp : w.cell? ⟨b, 0, none⟩ = some (.int .i64 p))
    (hM : M ≤ 1099511627776) (hg : GI p A B M hs hu hv ns nu nv) (r0 : RowB w.heap.size w as0 hs) (r1 : RowB w.heap.size w au0 hu) (r2 : RowB w.heap.size w av0 hv) (r3 : RowB w.heap.size w an0 ns) (r4 : RowB w.heap.size w am0 nu) (r5 : RowB w.heap.size w ao0 nv) :
    Calls Tryd.prog 57 #[.pointer (some ⟨b, 0, none⟩), .agg #[.slice as0 hs.length c0, .slice au0 hu.length c1, .slice av0 hv.length c2], .agg #[.slice an0 ns.length c3, .slice am0 nu.length c4, .slice ao0 nv.length c5]] w fun e w' =>
      ∃ (hs' hu' hv' nu' nv' : List Int) (a0 a1 a2 : Option Addr) (d0 d1 d2 : Nat), e = .returned (.agg #[.slice a0 hs'.length d0, .slice a1 hu'.length d1, .slice a2 hv'.length d2]) ∧ GI p A B M hs' hu' hv' [] nu' nv' ∧ RowB w'.heap.size w' a0 hs' ∧ RowB w'.heap.size w' a1 hu' ∧ RowB w'.heap.size w' a2 hv' ∧ Below w.heap.size w w' := by
  have hb := heap_lt hp
  have HPR := hid hpr
  obtain ⟨N, hN⟩ : ∃ N, N = w.heap.size := ⟨_, rfl⟩
  have HST : Hid (∀ W : World, W = (((w.alloc (.cells #[.pointer (some ⟨b, 0, none⟩)] 23)).alloc (.cells #[.slice as0 hs.length c0, .slice au0 hu.length c1, .slice av0 hv.length c2] 68)).alloc (.cells #[.slice an0 ns.length c3, .slice am0 nu.length c4, .slice ao0 nv.length c5] 68)).alloc (.cells #[.slice none 0 0, .slice none 0 0, .slice none 0 0] 68) →
      GM w.heap.size b (tri (.slice as0 hs.length c0) (.slice au0 hu.length c1) (.slice av0 hv.length c2)) (tri (.slice an0 ns.length c3) (.slice am0 nu.length c4) (.slice ao0 nv.length c5)) W ∧
      RowQ w.heap.size W as0 hs ∧ RowQ w.heap.size W au0 hu ∧ RowQ w.heap.size W av0 hv ∧ RowQ w.heap.size W an0 ns ∧ RowQ w.heap.size W am0 nu ∧ RowQ w.heap.size W ao0 nv ∧ Below w.heap.size w W ∧ w.heap.size + 3 < W.heap.size) := by
    intro W hW
    have hbl : Below w.heap.size w W := by
      rw [hW]; exact ((((Below.refl w.heap.size w).alloc (Nat.le_refl _) _).alloc (by simp) _).alloc (by simp; omega) _).alloc (by simp; omega) _
    have hsz : w.heap.size + 3 < W.heap.size := by rw [hW]; simp
    have q : ∀ (a : Option Addr) (zs : List Int), RowB w.heap.size w a zs → RowQ w.heap.size W a zs := fun a zs r k hk => by
      obtain ⟨b, o, h1, h2, h4⟩ := r k hk
      exact ⟨b, o, h1, ⟨by omega, Or.inl h2⟩, (hbl.cell (p := ⟨b, o + k, none⟩) h2).trans h4⟩
    have a3 : ∀ (W0 : World) (x y z : Value), (W0.alloc (.cells #[x, y, z] 68)).rowIs W0.heap.size 68 3 (tri x y z) := fun W0 x y z =>
      World.rowIs_alloc W0 #[x, y, z] _ _ (fun i hi => by
        have : i = 0 ∨ i = 1 ∨ i = 2 := by simp at hi; omega
        rcases this with rfl | rfl | rfl <;> rfl)
    have a1 : (w.alloc (.cells #[.pointer (some ⟨b, 0, none⟩)] 23)).rowIs w.heap.size 23 1 (fun _ => .pointer (some ⟨b, 0, none⟩)) :=
      World.rowIs_alloc w #[.pointer (some ⟨b, 0, none⟩)] _ _ (fun i hi => by simp at hi; subst hi; rfl)
    refine ⟨?_, q _ _ r0, q _ _ r1, q _ _ r2, q _ _ r3, q _ _ r4, q _ _ r5, hbl, hsz⟩
    rw [hW]
    refine ⟨((a1.alloc _).alloc _).alloc _, ?_, ?_, ⟨tri (.slice none 0 0) (.slice none 0 0) (.slice none 0 0), ?_⟩⟩
    · have := (a3 (w.alloc (.cells #[.pointer (some ⟨b, 0, none⟩)] 23)) (.slice as0 hs.length c0) (.slice au0 hu.length c1) (.slice av0 hv.length c2))
      simp only [World.size_alloc] at this
      exact (this.alloc _).alloc _
    · have := (a3 ((w.alloc (.cells #[.pointer (some ⟨b, 0, none⟩)] 23)).alloc (.cells #[.slice as0 hs.length c0, .slice au0 hu.length c1, .slice av0 hv.length c2] 68)) (.slice an0 ns.length c3) (.slice am0 nu.length c4) (.slice ao0 nv.length c5))
      simp only [World.size_alloc] at this
      exact this.alloc _
    · have := (a3 (((w.alloc (.cells #[.pointer (some ⟨b, 0, none⟩)] 23)).alloc (.cells #[.slice as0 hs.length c0, .slice au0 hu.length c1, .slice av0 hv.length c2] 68)).alloc (.cells #[.slice an0 ns.length c3, .slice am0 nu.length c4, .slice ao0 nv.length c5] 68)) (.slice none 0 0) (.slice none 0 0) (.slice none 0 0))
      simp only [World.size_alloc] at this
      exact this
  have HG := hid hg
  clear hpr hg r0 r1 r2 r3 r4 r5
  go_enter Tryd.func57, Tryd.ntmps57
  go_wp2_with fail
  go_loopw [8] (fun _ wr => ∃ (hs hu hv ns nu nv : List Int) (as0 au0 av0 an0 am0 ao0 : Option Addr) (c0 c1 c2 c3 c4 c5 : Nat),
      Hid (GM w.heap.size b (tri (.slice as0 hs.length c0) (.slice au0 hu.length c1) (.slice av0 hv.length c2)) (tri (.slice an0 ns.length c3) (.slice am0 nu.length c4) (.slice ao0 nv.length c5)) wr) ∧
      Hid (RowQ w.heap.size wr as0 hs) ∧ Hid (RowQ w.heap.size wr au0 hu) ∧ Hid (RowQ w.heap.size wr av0 hv) ∧ Hid (RowQ w.heap.size wr an0 ns) ∧ Hid (RowQ w.heap.size wr am0 nu) ∧ Hid (RowQ w.heap.size wr ao0 nv) ∧ Hid (Below w.heap.size w wr) ∧ w.heap.size + 3 < wr.heap.size ∧ Hid (GI p A B M hs hu hv ns nu nv))
    (fun _ wr => lenAt wr ⟨w.heap.size + 2, 0, none⟩)
  case atStart =>
    obtain ⟨g1, g2, g3, g4, g5, g6, g7, g8, g9⟩ := HST.out _ rfl
    exact ⟨hs, hu, hv, ns, nu, nv, as0, au0, av0, an0, am0, ao0, c0, c1, c2, c3, c4, c5, g1, g2, g3, g4, g5, g6, g7, g8, g9, HG⟩
  case round =>
    obtain ⟨hs, hu, hv, ns, nu, nv, as0, au0, av0, an0, am0, ao0, c0, c1, c2, c3, c4, c5, hgm, q0, q1, q2, q3, q4, q5, hbel, hsz, hgi⟩ := hrel
    have k0 := hgm.out.nb.cell (i := 0) (by omega)
    have l0 := hgm.out.hb.cell (i := 0) (by omega)
    have l1 := hgm.out.hb.cell (i := 1) (by omega)
    have l2 := hgm.out.hb.cell (i := 2) (by omega)
    simp only [tri] at k0 l0 l1 l2
    have f0 := hgm.out.fb.cell (i := 0) (by omega)
    by_cases hz : 0 < ns.length
    · have hz2 : (0 : Int) < (ns.length : Int) := by omega
      have hpc := (hbel.out.cell (p := ⟨b, 0, none⟩) hb).trans hp
      have hb1 := hgi.out.b1
      have hb2 := hgi.out.b2
      have hb3 := hgi.out.b3
      have hb4 := hgi.out.b4
      have HD := hid (divide_any p b c0 c3 as0 an0 hs ns wr HPR.out h3 hm hpc (by omega) (by omega) (fits_of_can hm hgi.out.chs) (fits_of_can hm hgi.out.cns) q0.out.row q3.out.row (by rw [Pol.trim_id (by omega) hgi.out.cns]; exact hz))
      rw [Pol.trim_id (by omega) hgi.out.cns] at HD
      go_wp2_with fail
      refine HD.out.mono ?_
      rintro e w1 ⟨q, r, aq, ar, cq, cr, rfl, hd, hnq, hnr, hql, hrl, hbd⟩
      have HIS := hid hd
      have HSTEP := hid (hgi.out.step h3 hd hql hrl)
      have hsd := hbd.size
      have HB1 : Hid (Below w.heap.size w w1) := hbel.out.trans (hbd.mono (by omega))
      have hba : Below wr.heap.size wr (w1.alloc (.cells #[.slice aq q.length cq] 22)) := hbd.alloc hsd _
      have HGM2 := hid (hgm.out.below hba (by omega))
      have HRR : Hid (RowQ w.heap.size (w1.alloc (.cells #[.slice aq q.length cq] 22)) ar r) := (hnr.q (by omega)).below ((Below.refl w1.heap.size w1).alloc (Nat.le_refl _) _)
      have HRQ : Hid (RowQ w.heap.size (w1.alloc (.cells #[.slice aq q.length cq] 22)) aq q) := (hnq.q (by omega)).below ((Below.refl w1.heap.size w1).alloc (Nat.le_refl _) _)
      have H1 := hid (q1.out.below hba)
      have H2 := hid (q2.out.below hba)
      have H3 := hid (q3.out.below hba)
      have H4 := hid (q4.out.below hba)
      have H5 := hid (q5.out.below hba)
      have HB2 : Hid (Below w.heap.size w (w1.alloc (.cells #[.slice aq q.length cq] 22))) := hbel.out.trans (hba.mono (by omega))
      have HQC : Hid ((w1.alloc (.cells #[.slice aq q.length cq] 22)).cell? ⟨w1.heap.size, 0, none⟩ = some (.slice aq q.length cq)) := by unfold Hid; simp
      have hqlt : w1.heap.size < (w1.alloc (.cells #[.slice aq q.length cq] 22)).heap.size := by simp
      have hwlt : w.heap.size + 3 < (w1.alloc (.cells #[.slice aq q.length cq] 22)).heap.size := by simp; omega
      have hLu := hgi.out
      have hqn : q.length + nu.length ≤ 17592186044416 := by omega
      have hqn2 : q.length + nv.length ≤ 17592186044416 := by omega
      have hul : hu.length ≤ 17592186044416 := by omega
      have hvl : hv.length ≤ 17592186044416 := by omega
      have HFITS : Hid (Fits hu ∧ Fits hv ∧ Fits nu ∧ Fits nv ∧ Fits q) := ⟨fits_of_can hm hgi.out.chu, fits_of_can hm hgi.out.chv, fits_of_can hm hgi.out.cnu, fits_of_can hm hgi.out.cnv, fits_of_can hm hd.cq⟩
      have hrlt := hd.lt
      clear hd hnq hnr hbd hba hLu q0 q1 q2 q3 q4 q5 HD
      go_wp2_with fail
      generalize hW2 : w1.alloc (.cells #[.slice aq q.length cq] 22) = W2 at *
      have HL : Hid (∀ W : World, Below W2.heap.size W2 W → W.cell? ⟨w.heap.size + 1, 1, none⟩ = some (.slice au0 hu.length c1) ∧ W.cell? ⟨w.heap.size + 1, 2, none⟩ = some (.slice av0 hv.length c2) ∧ W.cell? ⟨w.heap.size + 1 + 1, 0, none⟩ = some (.slice an0 ns.length c3) ∧ W.cell? ⟨w.heap.size + 1 + 1, 1, none⟩ = some (.slice am0 nu.length c4) ∧ W.cell? ⟨w.heap.size + 1 + 1, 2, none⟩ = some (.slice ao0 nv.length c5)) := fun W hC => by
        have g := HGM2.out.below hC hwlt
        exact ⟨g.hb.cell (i := 1) (by omega), g.hb.cell (i := 2) (by omega), g.nb.cell (i := 0) (by omega), g.nb.cell (i := 1) (by omega), g.nb.cell (i := 2) (by omega)⟩
      have HLU : Hid (∀ W : World, Below W2.heap.size W2 W → Calls Tryd.prog 70 #[.slice au0 hu.length c1, .slice am0 nu.length c4, .pointer (some ⟨w.heap.size, 0, none⟩), .pointer (some ⟨w1.heap.size, 0, none⟩)] W fun e w' => ∃ a c,
          e = .returned (.slice a (Pol.psub p hu (Pol.pmul p q nu)).length c) ∧ NewR W.heap.size w' a (Pol.psub p hu (Pol.pmul p q nu)) ∧ Below W.heap.size W w') := fun W hC =>
        left_any p b w.heap.size w1.heap.size c1 c4 cq au0 am0 aq hu nu q W HPR.out h3 hm (((HB2.out.trans (hC.mono (by omega))).cell (p := ⟨b, 0, none⟩) hb).trans hp) ((HGM2.out.below hC hwlt).fb.cell (i := 0) (by omega)) ((hC.cell (p := ⟨w1.heap.size, 0, none⟩) hqlt).trans HQC.out) hul hqn HFITS.out.1 HFITS.out.2.2.1 HFITS.out.2.2.2.2 (H1.out.below hC).row (H4.out.below hC).row (HRQ.out.below hC).row
      have HLV : Hid (∀ W : World, Below W2.heap.size W2 W → Calls Tryd.prog 70 #[.slice av0 hv.length c2, .slice ao0 nv.length c5, .pointer (some ⟨w.heap.size, 0, none⟩), .pointer (some ⟨w1.heap.size, 0, none⟩)] W fun e w' => ∃ a c,
          e = .returned (.slice a (Pol.psub p hv (Pol.pmul p q nv)).length c) ∧ NewR W.heap.size w' a (Pol.psub p hv (Pol.pmul p q nv)) ∧ Below W.heap.size W w') := fun W hC =>
        left_any p b w.heap.size w1.heap.size c2 c5 cq av0 ao0 aq hv nv q W HPR.out h3 hm (((HB2.out.trans (hC.mono (by omega))).cell (p := ⟨b, 0, none⟩) hb).trans hp) ((HGM2.out.below hC hwlt).fb.cell (i := 0) (by omega)) ((hC.cell (p := ⟨w1.heap.size, 0, none⟩) hqlt).trans HQC.out) hvl hqn2 HFITS.out.2.1 HFITS.out.2.2.2.1 HFITS.out.2.2.2.2 (H2.out.below hC).row (H5.out.below hC).row (HRQ.out.below hC).row
      generalize Pol.psub p hu (Pol.pmul p q nu) = lu at *
      generalize Pol.psub p hv (Pol.pmul p q nv) = lv at *
      have HK0 : Hid (lenAt wr ⟨w.heap.size + 2, 0, none⟩ = ns.length) := by unfold Hid lenAt; rw [k0]
      clear k0 l0 l1 l2 f0 hpc hW2
      have hmx : Tryd.prog.follows .mixedOrders = true := by kernel_rfl
      refine wp_region_S (C := fun W => Below W2.heap.size W2 W) (st := [15, 16]) hmx ?_
      have hC0 : Below W2.heap.size W2 W2.drew := (Below.refl _ _).drew
      show wpAnyS _ _ _ _ _ _ 17 (Array.replicate 17 false) _ _
      refine wpAnyS_take (i := 0) (v := .agg #[.slice an0 ns.length c3, .slice am0 nu.length c4, .slice ao0 nv.length c5]) rfl (by kernel_rfl) (by kernel_rfl) (by kernel_rfl) (by kernel_rfl) (by kernel_rfl) (by kernel_rfl) (fun _ _ _ h => h) (Or.inl ⟨by rfl, fun W hC => ?_⟩) hC0 ?_
      · obtain ⟨s1, s2, s3, s4, s5⟩ := HL.out W hC
        clear hC
        go_simp
      refine wpAnyS_pure (i := 1) (v := .slice ar r.length cr) rfl (by kernel_rfl) (by kernel_rfl) (by kernel_rfl) (by kernel_rfl) (fun _ _ _ h => h) (Or.inl ⟨by rfl, fun W _ => ?_⟩) (fun _ => hC0) ?_
      · go_simp
      refine wpAnyS_pure (i := 2) (v := .func (.func 70) #[] #[.pointer (some ⟨w.heap.size, 0, none⟩), .pointer (some ⟨w1.heap.size, 0, none⟩)]) rfl (by kernel_rfl) (by kernel_rfl) (by kernel_rfl) (by kernel_rfl) (fun _ _ _ h => h) (Or.inl ⟨by rfl, fun W _ => ?_⟩) (fun _ => hC0) ?_
      · go_simp
      refine wpAnyS_pure (i := 3) (v := .pointer (some ⟨w.heap.size + 1, 1, none⟩)) rfl (by kernel_rfl) (by kernel_rfl) (by kernel_rfl) (by kernel_rfl) (fun _ _ _ h => h) (Or.inl ⟨by rfl, fun W _ => ?_⟩) (fun _ => hC0) ?_
      · go_simp
      refine wpAnyS_take (i := 4) (v := .slice au0 hu.length c1) rfl (by kernel_rfl) (by kernel_rfl) (by kernel_rfl) (by kernel_rfl) (by kernel_rfl) (by kernel_rfl) (fun _ _ _ h => h) (Or.inl ⟨by rfl, fun W hC => ?_⟩) hC0 ?_
      · obtain ⟨s1, s2, s3, s4, s5⟩ := HL.out W hC
        clear hC
        go_simp
      refine wpAnyS_pure (i := 5) (v := .pointer (some ⟨w.heap.size + 1 + 1, 1, none⟩)) rfl (by kernel_rfl) (by kernel_rfl) (by kernel_rfl) (by kernel_rfl) (fun _ _ _ h => h) (Or.inl ⟨by rfl, fun W _ => ?_⟩) (fun _ => hC0) ?_
      · go_simp
      refine wpAnyS_take (i := 6) (v := .slice am0 nu.length c4) rfl (by kernel_rfl) (by kernel_rfl) (by kernel_rfl) (by kernel_rfl) (by kernel_rfl) (by kernel_rfl) (fun _ _ _ h => h) (Or.inl ⟨by rfl, fun W hC => ?_⟩) hC0 ?_
      · obtain ⟨s1, s2, s3, s4, s5⟩ := HL.out W hC
        clear hC
        go_simp
      refine wpAnyS_pure (i := 8) (v := .func (.func 70) #[] #[.pointer (some ⟨w.heap.size, 0, none⟩), .pointer (some ⟨w1.heap.size, 0, none⟩)]) rfl (by kernel_rfl) (by kernel_rfl) (by kernel_rfl) (by kernel_rfl) (fun _ _ _ h => h) (Or.inl ⟨by rfl, fun W _ => ?_⟩) (fun _ => hC0) ?_
      · go_simp
      refine wpAnyS_pure (i := 9) (v := .pointer (some ⟨w.heap.size + 1, 2, none⟩)) rfl (by kernel_rfl) (by kernel_rfl) (by kernel_rfl) (by kernel_rfl) (fun _ _ _ h => h) (Or.inl ⟨by rfl, fun W _ => ?_⟩) (fun _ => hC0) ?_
      · go_simp
      refine wpAnyS_take (i := 10) (v := .slice av0 hv.length c2) rfl (by kernel_rfl) (by kernel_rfl) (by kernel_rfl) (by kernel_rfl) (by kernel_rfl) (by kernel_rfl) (fun _ _ _ h => h) (Or.inl ⟨by rfl, fun W hC => ?_⟩) hC0 ?_
      · obtain ⟨s1, s2, s3, s4, s5⟩ := HL.out W hC
        clear hC
        go_simp
      refine wpAnyS_pure (i := 11) (v := .pointer (some ⟨w.heap.size + 1 + 1, 2, none⟩)) rfl (by kernel_rfl) (by kernel_rfl) (by kernel_rfl) (by kernel_rfl) (fun _ _ _ h => h) (Or.inl ⟨by rfl, fun W _ => ?_⟩) (fun _ => hC0) ?_
      · go_simp
      refine wpAnyS_take (i := 12) (v := .slice ao0 nv.length c5) rfl (by kernel_rfl) (by kernel_rfl) (by kernel_rfl) (by kernel_rfl) (by kernel_rfl) (by kernel_rfl) (fun _ _ _ h => h) (Or.inl ⟨by rfl, fun W hC => ?_⟩) hC0 ?_
      · obtain ⟨s1, s2, s3, s4, s5⟩ := HL.out W hC
        clear hC
        go_simp
      refine wpAnyS_one (i := 7) (by kernel_rfl) ?_
      refine wpOp_step rfl (fun K' hK' => ?_)
      rw [if_pos (by rfl)]
      go_simp
      refine (HLU.out W2.drew hC0).mono ?_
      rintro e w3 ⟨a3, d3, rfl, hn3, hb3⟩
      have hC3 : Below W2.heap.size W2 w3 := hC0.trans hb3
      have hsz3 : W2.heap.size ≤ w3.heap.size := hb3.size
      refine hK' _ _ ⟨fun _ => hC3, ?_⟩
      clear hK' K' hb3
      refine wpAnyS_one (i := 13) (by kernel_rfl) ?_
      refine wpOp_step rfl (fun K' hK' => ?_)
      rw [if_pos (by rfl)]
      go_simp
      refine (HLV.out w3 hC3).mono ?_
      rintro e w4 ⟨a4, d4, rfl, hn4, hb4⟩
      have hC4 : Below W2.heap.size W2 w4 := hC3.trans (hb4.mono hC3.size)
      have hn3' := hn3.below hb4
      have hsz4 := hb4.size
      refine hK' _ _ ⟨fun _ => hC4, ?_⟩
      clear hK' K' hb4 hn3
      refine wpAnyS_pure (i := 14) (v := .agg #[.slice ar r.length cr, .slice a3 lu.length d3, .slice a4 lv.length d4]) rfl (by kernel_rfl) (by kernel_rfl) (by kernel_rfl) (by kernel_rfl) (fun _ _ _ h => h) (Or.inl ⟨by rfl, fun W _ => ?_⟩) (fun _ => hC4) ?_
      · go_simp
      refine wpAnyS_one (i := 15) (by kernel_rfl) ?_
      have g4 := HGM2.out.below hC4 hwlt
      have x0 := g4.hb.cell (i := 0) (by omega)
      have x1 := g4.hb.cell (i := 1) (by omega)
      have x2 := g4.hb.cell (i := 2) (by omega)
      have y0 := g4.hb.frozen 0
      have y1 := g4.hb.frozen 1
      have y2 := g4.hb.frozen 2
      have X0 : w4.cell? ⟨w.heap.size + 1 + 1, 0, none⟩ = some (.slice an0 ns.length c3) := g4.nb.cell (i := 0) (by omega)
      have X1 : w4.cell? ⟨w.heap.size + 1 + 1, 1, none⟩ = some (.slice am0 nu.length c4) := g4.nb.cell (i := 1) (by omega)
      have X2 : w4.cell? ⟨w.heap.size + 1 + 1, 2, none⟩ = some (.slice ao0 nv.length c5) := g4.nb.cell (i := 2) (by omega)
      have Y0 : w4.frozen? ⟨w.heap.size + 1 + 1, 0, none⟩ = false := g4.nb.frozen 0
      have Y1 : w4.frozen? ⟨w.heap.size + 1 + 1, 1, none⟩ = false := g4.nb.frozen 1
      have Y2 : w4.frozen? ⟨w.heap.size + 1 + 1, 2, none⟩ = false := g4.nb.frozen 2
      simp only [tri] at x0 x1 x2
      have HG4 := hid g4
      have HC4 := hid hC4
      have HN3 := hid hn3'
      have HN4 := hid hn4
      clear g4 hC4 hn3' hn4 hC3 hC0
      refine wpOp_step rfl (fun K' hK' => ?_)
      rw [if_pos (by rfl)]
      go_simp
      refine hK' _ _ ⟨fun h => absurd (h 15 (by simp)) (by decide), ?_⟩
      clear hK' K'
      refine wpAnyS_one (i := 16) (by kernel_rfl) ?_
      refine wpOp_step rfl (fun K' hK' => ?_)
      rw [if_pos (by rfl)]
      go_simp
      refine hK' _ _ ⟨fun h => absurd (h 15 (by simp)) (by decide), ?_⟩
      clear hK' K'
      refine wpAnyS_done (by kernel_rfl) ?_ _
      have HG5 : Hid (GM w.heap.size b (tri (.slice an0 ns.length c3) (.slice am0 nu.length c4) (.slice ao0 nv.length c5)) (tri (.slice ar r.length cr) (.slice a3 lu.length d3) (.slice a4 lv.length d4)) (six w.heap.size (.slice an0 ns.length c3) (.slice am0 nu.length c4) (.slice ao0 nv.length c5) (.slice ar r.length cr) (.slice a3 lu.length d3) (.slice a4 lv.length d4) w4)) := gm_six HG4.out
      have HM5 : Hid (lenAt (six w.heap.size (.slice an0 ns.length c3) (.slice am0 nu.length c4) (.slice ao0 nv.length c5) (.slice ar r.length cr) (.slice a3 lu.length d3) (.slice a4 lv.length d4) w4) ⟨w.heap.size + 2, 0, none⟩ < lenAt wr ⟨w.heap.size + 2, 0, none⟩) := by
        unfold Hid
        rw [HK0.out]
        unfold lenAt
        rw [HG5.out.nb.cell (i := 0) (by omega)]
        exact hrlt
      go_wp2_with fail
      go_roundw
      case rel => exact ⟨ns, nu, nv, r, lu, lv, an0, am0, ao0, ar, a3, a4, c3, c4, c5, cr, d3, d4, HG5, (H3.out.below HC4.out).six, (H4.out.below HC4.out).six, (H5.out.below HC4.out).six, (HRR.out.below HC4.out).six, (HN3.out.q (by exact hwlt)).six, (HN4.out.q (by omega)).six, below_six (HB2.out.trans (HC4.out.mono (by omega))), by simp only [World.size_setCell]; omega, HSTEP⟩
      case measure => exact HM5.out
    · have hz2 : ¬ (0 : Int) < (ns.length : Int) := by omega
      obtain ⟨rr, hrr⟩ := hgm.out.rb
      have z0 : wr.cell? ⟨w.heap.size + 1 + 1 + 1, 0, none⟩ = some (rr 0) := hrr.cell (i := 0) (by omega)
      have z1 : wr.cell? ⟨w.heap.size + 1 + 1 + 1, 1, none⟩ = some (rr 1) := hrr.cell (i := 1) (by omega)
      have z2 : wr.cell? ⟨w.heap.size + 1 + 1 + 1, 2, none⟩ = some (rr 2) := hrr.cell (i := 2) (by omega)
      have y0 : wr.frozen? ⟨w.heap.size + 1 + 1 + 1, 0, none⟩ = false := hrr.frozen 0
      have y1 : wr.frozen? ⟨w.heap.size + 1 + 1 + 1, 1, none⟩ = false := hrr.frozen 1
      have y2 : wr.frozen? ⟨w.heap.size + 1 + 1 + 1, 2, none⟩ = false := hrr.frozen 2
      obtain rfl : ns = [] := List.length_eq_zero_iff.1 (by omega)
      have HRB : Hid (wr.rowIs (w.heap.size + 1 + 1 + 1) 68 3 rr) := hrr
      clear hrr
      have HE0 := hid (((q0.out.far (p := ⟨w.heap.size + 1 + 1 + 1, 0, none⟩) (by simp; omega) (by simp) (.slice as0 hs.length c0)).far (p := ⟨w.heap.size + 1 + 1 + 1, 1, none⟩) (by simp; omega) (by simp) (.slice au0 hu.length c1)).far (p := ⟨w.heap.size + 1 + 1 + 1, 2, none⟩) (by simp; omega) (by simp) (.slice av0 hv.length c2))
      have HE1 := hid (((q1.out.far (p := ⟨w.heap.size + 1 + 1 + 1, 0, none⟩) (by simp; omega) (by simp) (.slice as0 hs.length c0)).far (p := ⟨w.heap.size + 1 + 1 + 1, 1, none⟩) (by simp; omega) (by simp) (.slice au0 hu.length c1)).far (p := ⟨w.heap.size + 1 + 1 + 1, 2, none⟩) (by simp; omega) (by simp) (.slice av0 hv.length c2))
      have HE2 := hid (((q2.out.far (p := ⟨w.heap.size + 1 + 1 + 1, 0, none⟩) (by simp; omega) (by simp) (.slice as0 hs.length c0)).far (p := ⟨w.heap.size + 1 + 1 + 1, 1, none⟩) (by simp; omega) (by simp) (.slice au0 hu.length c1)).far (p := ⟨w.heap.size + 1 + 1 + 1, 2, none⟩) (by simp; omega) (by simp) (.slice av0 hv.length c2))
      have HEB := hid (((hbel.out.setCell (p := ⟨w.heap.size + 1 + 1 + 1, 0, none⟩) (by simp; omega) (.slice as0 hs.length c0)).setCell (p := ⟨w.heap.size + 1 + 1 + 1, 1, none⟩) (by simp; omega) (.slice au0 hu.length c1)).setCell (p := ⟨w.heap.size + 1 + 1 + 1, 2, none⟩) (by simp; omega) (.slice av0 hv.length c2))
      have HRES : Hid ((((wr.setCell ⟨w.heap.size + 1 + 1 + 1, 0, none⟩ (.slice as0 hs.length c0)).setCell ⟨w.heap.size + 1 + 1 + 1, 1, none⟩ (.slice au0 hu.length c1)).setCell ⟨w.heap.size + 1 + 1 + 1, 2, none⟩ (.slice av0 hv.length c2)).heap[w.heap.size + 1 + 1 + 1]? = some (.cells #[.slice as0 hs.length c0, .slice au0 hu.length c1, .slice av0 hv.length c2] 68 (0, 0))) := row_arr (row_three HRB.out _ _ _)
      go_wp2_with fail
      (try simp only [Exit.inBlock, Exit.then])
      refine bodyPost_ret (results_cell_row rfl _ _ (w.heap.size + 1 + 1 + 1) 68 #[.slice as0 hs.length c0, .slice au0 hu.length c1, .slice av0 hv.length c2] (0, 0) _ rfl HRES.out Tryd.underlying68 rfl (by kernel_rfl)) rfl ?_
      exact ⟨hs, hu, hv, nu, nv, as0, au0, av0, ⟨c0, c1, c2, rfl⟩, hgi.out, HE0.out.row, HE1.out.row, HE2.out.row, HEB.out⟩
end Go.Proofs.YtfombbbiilalpabDoor
