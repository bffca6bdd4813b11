/- FoldChecks: the walk. -/
import Derived.Test.YtfppkjpgihnibaaGreatDoorFolG
import Derived.Test.YtfppkjpgihnibaaGreatDoorFolM
import Derived.Test.YtfppkjpgihnibaaGreatDoorSitC
namespace Go.Proofs.YtfppkjpgihnibaaGreatDoor
open Go.RowKit

set_option maxRecDepth 100000 in
set_option maxHeartbeats 1000000 in
theorem chains5_any (N0 q n d s b cap : Nat) (a : Option Addr) (l : List Int) (w : World) (h23 : 23 ≤ q) (h4 : q ≤ 2147483647) (ok : SpgOk q n d) (hs : SpgAt w s b q n d) (hN : N0 ≤ w.heap.size) (hsN : s < N0) (hbN : b < N0) (hlen : l.length ≤ 17592186043904) (hfl : Fits l) (hl : Lst w.heap.size w a cap l) :
    Calls Tryz.prog 7 #[.pointer (some ⟨s, 0, none⟩), .int .i64 q, .slice a l.length cap] w fun e w' => ∃ c r, e = .returned (.tuple #[.pointer (some ⟨c, 0, none⟩), .pointer (some ⟨r, 0, none⟩)]) ∧ w.heap.size ≤ c ∧ c < r ∧ PCh N0 q n w' c (digl q n (2 :: l)) ∧ RCh q w' r (digl q n (2 :: l)) ∧ Below w.heap.size w w' := by
  have HPW := hid ok.pw
  have HF := hid hfl
  have HL := hid hl
  have HN := hid (cnew_any N0 q n d s b cap a l w ok hs hN hsN hbN hlen hfl hl)
  clear ok hs hfl hl hsN hbN
  go_enter Tryz.func7, Tryz.ntmps7
  go_wp2_with fail
  refine HN.out.mono ?_
  rintro e w1 ⟨c, rfl, hc, hP, hb1⟩
  have HP := hid hP
  have HB1 := hid hb1
  have HC := hid hc
  have HLT := hid hP.lt
  have HBG := hid (rbegin_any q n cap a l w1 (by omega) h4 HPW.out (by omega) HF.out ((HL.out.below hb1).mono hb1.size))
  clear hP hb1 hc HN
  go_wp2_with fail
  refine HBG.out.mono ?_
  rintro e w2 ⟨r, rfl, hr, hR, hb2⟩
  have HX : Hid (PCh N0 q n w2 c (digl q n (2 :: l)) ∧ RCh q w2 r (digl q n (2 :: l)) ∧ Below w.heap.size w w2) := ⟨HP.out.below hb2, hR, HB1.out.trans (hb2.mono HB1.out.size)⟩
  clear hR hb2 HBG HP
  go_wp2_with fail
  go_ret2
  exact ⟨c, r, rfl, HC.out, by have := HLT.out; omega, HX.out.1, HX.out.2.1, HX.out.2.2⟩

set_option maxRecDepth 100000 in
set_option maxHeartbeats 1000000 in
theorem cdigest_row (N0 q n c : Nat) (D : List Int) (w : World) (hP : PCh N0 q n w c D) (hD : Dig D) :
    Calls Tryz.prog 15 #[.pointer (some ⟨c, 0, none⟩)] w fun e w' => ∃ a N, e = .returned (.slice a 4 N) ∧ NumL w' a N D ∧ Below w.heap.size w w' := by
  have hD4 := hD.1
  obtain ⟨s, b, d, _, _, _, _, _, hblk⟩ := hP
  have HCL := hid (clone_own (some ⟨c, 1, none⟩) 4 D w (by omega) (by omega) (five_lst hD4 hblk))
  rw [hD4] at HCL
  clear hblk hD
  go_enter Tryz.func15, Tryz.ntmps15
  go_wp2_with fail
  refine HCL.out.mono ?_
  rintro e w1 ⟨v, rfl, hown, hb⟩
  have hown4 : w1.ownsRow w.heap.size 3 1 v D.length (D.map (Value.int .i64)) := by rw [hD4]; exact hown
  obtain ⟨a2, c2, hv2, hl2⟩ := numL_of_owns hown4
  rw [hD4] at hv2
  subst hv2
  have HE : Hid (NumL w1 a2 c2 D ∧ Below w.heap.size w w1) := ⟨hl2, hb⟩
  clear hown hown4 hl2 hb HCL
  go_wp2_with fail
  go_ret
  exact ⟨a2, c2, rfl, HE.out⟩

/-- what stands behind the chains -/
structure OcS (w : World) (N0 q n c m O G O2 : Nat) (vo vq vw : Array Value) (b1 b2 b3 : Option Addr) (d1 d2 d3 : Nat) (roots : List (List Int)) (last : List Int) (os : List OnZ) (Dc Dm : List Int) (W : World) : Prop where
  bel : Below w.heap.size w W
  ob : W.heap[O]? = some (.cells vo 36 (0, 0))
  gd : W.heap[G]? = some (.cells vq 26 (0, 0))
  ow : W.heap[O2]? = some (.cells vw 36 (0, 0))
  fd : FdAt W b1 b2 b3 d1 d2 d3 roots last os
  pc : PCh N0 q n W c Dc
  rc : RCh q W m Dm
  hn : w.heap.size ≤ N0
  hm : N0 ≤ m
  ne : c ≠ m
theorem gb_typ {W W' : World} {s O : Nat} {c c' : Array Value} {t t' : TypeId} {f f' : Nat × Nat} (g : W.grownBy W' (some s)) (hs : W.heap[s]? = some (.cells c t f)) (hO : W.heap[O]? = some (.cells c' t' f')) (hne : t' ≠ t) : W'.heap[O]? = some (.cells c' t' f') :=
  (gb_blk g (Array.getElem?_eq_some_iff.1 hO).1 (by
    rintro rfl
    rw [hs] at hO
    injection hO with hO
    injection hO with _ h3 _
    exact hne h3.symm)).trans hO
theorem OcS.step {w : World} {N0 q n c m O G O2 : Nat} {vo vq vw : Array Value} {b1 b2 b3 : Option Addr} {d1 d2 d3 : Nat} {roots : List (List Int)} {last : List Int} {os : List OnZ} {Dc Dm : List Int} {W W' : World} (h : OcS w N0 q n c m O G O2 vo vq vw b1 b2 b3 d1 d2 d3 roots last os Dc Dm W) (e : Below W.heap.size W W') : OcS w N0 q n c m O G O2 vo vq vw b1 b2 b3 d1 d2 d3 roots last os Dc Dm W' :=
  ⟨h.bel.trans (e.mono h.bel.size), (e.block _ (Array.getElem?_eq_some_iff.1 h.ob).1).trans h.ob, (e.block _ (Array.getElem?_eq_some_iff.1 h.gd).1).trans h.gd, (e.block _ (Array.getElem?_eq_some_iff.1 h.ow).1).trans h.ow, h.fd.ko (KO.below e), h.pc.below e, h.rc.below e, h.hn, h.hm, h.ne⟩
theorem OcS.prog {w : World} {N0 q n c m O G O2 : Nat} {vo vq vw : Array Value} {b1 b2 b3 : Option Addr} {d1 d2 d3 : Nat} {roots : List (List Int)} {last : List Int} {os : List OnZ} {Dc Dm Dc' : List Int} {W W' : World} (h : OcS w N0 q n c m O G O2 vo vq vw b1 b2 b3 d1 d2 d3 roots last os Dc Dm W) (g : W.grownBy W' (some c)) (p : PCh N0 q n W' c Dc') : OcS w N0 q n c m O G O2 vo vq vw b1 b2 b3 d1 d2 d3 roots last os Dc' Dm W' := by
  obtain ⟨_, _, _, _, _, _, _, hge, hblk⟩ := h.pc
  have hK : KO W W' := KO.oth hblk (by decide) (by decide) (by decide) g.size (fun b hb hne => gb_blk g hb hne)
  have hn := h.hn
  exact ⟨h.bel.trans (gb_to g (by omega) h.bel.size), gb_typ g hblk h.ob (by decide), gb_typ g hblk h.gd (by decide), gb_typ g hblk h.ow (by decide), h.fd.ko hK, p, h.rc.blocks g.size (gb_blk g h.rc.lt (Ne.symm h.ne)) (fun b cs f hg => hK.1.2 b cs _ f hg (.inl rfl)), h.hn, h.hm, h.ne⟩
theorem OcS.refs {w : World} {N0 q n c m O G O2 : Nat} {vo vq vw : Array Value} {b1 b2 b3 : Option Addr} {d1 d2 d3 : Nat} {roots : List (List Int)} {last : List Int} {os : List OnZ} {Dc Dm Dm' : List Int} {W W' : World} (h : OcS w N0 q n c m O G O2 vo vq vw b1 b2 b3 d1 d2 d3 roots last os Dc Dm W) (g : W.grownBy W' (some m)) (r : RCh q W' m Dm') : OcS w N0 q n c m O G O2 vo vq vw b1 b2 b3 d1 d2 d3 roots last os Dc Dm' W' ∧ KO W W' := by
  obtain ⟨_, _, hblk, _⟩ := h.rc
  have hK : KO W W' := KO.oth hblk (by decide) (by decide) (by decide) g.size (fun b hb hne => gb_blk g hb hne)
  have hn := h.hn
  have hm := h.hm
  have hge := h.pc.ge
  have hlt := h.pc.lt
  exact ⟨⟨h.bel.trans (gb_to g (by omega) h.bel.size), gb_typ g hblk h.ob (by decide), gb_typ g hblk h.gd (by decide), gb_typ g hblk h.ow (by decide), h.fd.ko hK, h.pc.blocks (gb_blk g h.pc.lt h.ne) (fun b hb => gb_blk g (by omega) (by omega)), r, h.hn, h.hm, h.ne⟩, hK⟩

end Go.Proofs.YtfppkjpgihnibaaGreatDoor
