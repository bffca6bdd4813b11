
import Derived.Test.YtlhjifpomchnfaaGreatDoorPoAU
import Derived.Test.YtlhjifpomchnfaaGreatDoorPoAO
import Derived.Test.YtlhjifpomchnfaaGreatDoorTres
import Derived.Test.YtlhjifpomchnfaaGreatDoorPoAW
import Derived.Test.YtlhjifpomchnfaaGreatDoorPoAX
set_option maxRecDepth 1000000
set_option maxHeartbeats 8000000
namespace Go.Proofs.YtlhjifpomchnfaaGreatDoor
open Go.RowKit
theorem rdraw12_any (q n r N m : Nat) (D : List Int) (w : World) (h5 : 5 <= q) (h4 : q <= 2147483647) (hpn : Spo.PowIs q n) (hlen : D.length <= 17592186044000) (hfd : Fits D) (hr : RCh q w r D) (hN1 : 1 <= N) (hN2 : N <= 65536) (hm : m <= 1000) :
  Calls Tryz.prog 48 #[.pointer (some ⟨r, 0, none⟩), .int .i64 (N : Int), .int .i64 (m : Int)] w fun e w' => ∃ v, e = .returned v /\ RCh q w' r (pld q n m D) /\ w'.ownsRow w.heap.size 3 1 v (pgP q n N m D).length ((pgP q n N m D).map (Value.int .i64)) /\ w.grownBy w' (some r) := by
 obtain ⟨i0, hi, hz0, hz1, hz2⟩ := info_parts Tryz.infoInt
 have HPN := hid hpn
 have HLN : Hid (∀ i, (pld q n i D).length <= 17592186044000) := pld_len hlen
 have HFT : Hid (∀ i, Fits (pld q n i D)) := pld_fits (by omega) h4 hfd
 have hrl := hr.lt
 have HR0 := hid hr
 obtain ⟨h, hh⟩ : ∃ h, h = N := ⟨_, rfl⟩
 have hh1 : 1 <= h := by omega
 have hh2 : h <= 65536 := by omega
 have HPG : Hid (pgP q n N m D = onc (ls (plz q n N D) m)) := rfl
 rw [HPG.out, <- hh]
 obtain ⟨G, hG⟩ : ∃ G, G = plz q n h D := ⟨_, rfl⟩
 rw [<- hG]
 have HGP : Hid (∀ i, G i = (zat (digl q n (4 :: pld q n i D)) 0 * q + zat (digl q n (4 :: pld q n i D)) 1) % (h : Int)) := fun i => by rw [hG]; rfl
 clear hpn hlen hfd hr hG HPG
 subst hh
 go_enter Tryz.func48, Tryz.ntmps48
 go_wp2_with fail
 go_loopw [7, 8] (fun v iv wr => ∃ k : Nat, k <= m /\ iv = .int .i64 k /\ Hid (RCh q wr r (pld q n k D) /\ wr.ownsRow w.heap.size 3 1 v (ls G k).length ((ls G k).map (Value.int .i64)) /\ w.grownBy wr (some r))) (fun _ iv _ => m - (intOf iv).toNat)
 case atStart => exact ⟨0, by omega, rfl, HR0.out, World.ownsRow_nil _ _ _ _, gb_refl _ _⟩
 case round =>
  obtain ⟨k, hk, rfl, hI⟩ := hrel
  by_cases hlt : k < m
  ·have hlt2 : (k : Int) < (m : Int) := by omega
   have hks : IntKind.i64.wrap ((k : Int) + 1) = (k : Int) + 1 := by rw [IntKind.wrap_i64]; omega
   have HPL := hid (rplace_new q n r (h : Int) (pld q n k D) wr h5 h4 HPN.out (HLN.out k) (HFT.out k) hI.out.1 (by omega) (by omega))
   rw [<- HGP.out k] at HPL
   have HSC := hid (ls_succ G k)
   have HLS := hid (ls_len G k)
   generalize G k = z at *
   have HII := hI
   have hw : w.heap.size <= wr.heap.size := hI.out.2.2.size
   clear hI
   go_wp2_with fail
   refine HPL.out.mono ?_
   rintro e w1 ⟨rfl, hrc, hg1⟩
   have hob : ∀ (v : Value) (xs : List Value) (n' : Nat), wr.ownsRow w.heap.size 3 1 v n' xs -> v.ownBlock = none ∨ v.ownBlock ≠ some r := fun v xs n' ho => by
    rcases ho.2 with ⟨rfl, _⟩ | ⟨g, cap, cur, rfl, _, hg, _⟩
    ·exact .inl rfl
    ·right
     intro e
     simp [Value.ownBlock] at e
     subst e
     exact HII.out.1.not _ _ hg
   have hown := HII.out.2.1.kept hg1 (hob _ _ _ HII.out.2.1)
   have holt := HII.out.2.1.lt
   have hg0 := gb_trans HII.out.2.2 hg1
   have hne := hob _ _ _ HII.out.2.1
   have hrn := hrc.below ((Below.refl _ _).alloc (Nat.le_refl _) (.cells #[.int .i64 z] 3))
   have hs1 := hg1.size
   generalize ls G k = Z at *
   have hZ : Z.length <= 17592186043904 := by rw [HLS.out]; omega
   clear HII HPL hrc hg1 hob
   go_wp2_with (at_builtin; refine wpList_append_own _ rfl _ _ 22 rfl w.heap.size 3 i0 (.int .i64 0) 1 8 Tryz.underlying22 hi hz0 hz1 hz2 rfl (by decide) _ _ _ rfl (hown.alloc _) ⟨w1.heap.size, 0, none⟩ 1 1 [.int .i64 z] rfl rfl ?c1 ?c2 ?c3 ?c4 ?c5 ?_)
   case c1 =>
    intro j u hj
    match j, hj with
    | 0, hj => simp at hj; subst hj; simp [Addr.add]
   case c2 => intro u hu; simp at hu; subst hu; rfl
   case c3 => unfold maxLen; omega
   case c4 => omega
   case c5 => simp; omega
   intro v' w5 hown2 hgrow _
   have hown3 := owns_succ hown2
   have HE : Hid (RCh q w5 r (pld q n (k + 1) D) /\ w5.ownsRow w.heap.size 3 1 v' (ls G (k + 1)).length ((ls G (k + 1)).map (Value.int .i64)) /\ w.grownBy w5 (some r)) := by
    refine ⟨hrn.own hgrow (fun e => ?_) (fun g hg => (holt g hg).2), by rw [HSC.out]; exact hown3, ?_⟩
    ·rcases hne with h0 | h0
     ·rw [h0] at e; cases e
     ·exact h0 e.symm
    ·have hg2 : (w1.alloc (.cells #[.int .i64 z] 3)).heap.size = w1.heap.size + 1 := by simp
     refine ⟨hgrow.os.trans hg0.os, hgrow.tape.trans hg0.tape, hgrow.output.trans hg0.output, by have := hgrow.size; have := hg0.size; omega, fun b hb hbr => ?_⟩
     have := hg0.size
     refine (hgrow.block b (by omega) (fun e => ?_)).trans ((Below.heap_alloc w1 _ b (by omega)).trans (hg0.block b hb hbr))
     have := (holt b e.symm).1
     omega
   clear hown2 hown3 hgrow hown holt hg0 hne hrn
   go_wp2_with fail
   go_roundw
   case rel => exact ⟨k + 1, by omega, by go_num, HE⟩
   case measure => simp [intOf]; omega
  ·obtain rfl : k = m := by omega
   have hlt2 : ¬ (k : Int) < (k : Int) := by omega
   obtain ⟨av, cv, hv, hlv⟩ := lst_of_owns hI.out.2.1
   rw [ls_len] at hv
   subst hv
   have HON := hid (ronce_any cv av (ls G k) wr (by rw [ls_len]; omega) hlv.row)
   rw [ls_len] at HON
   have HRC := hid hI.out.1
   have HGR := hid hI.out.2.2
   clear hI hlv
   go_wp2_with fail
   refine HON.out.mono ?_
   rintro e w2 ⟨v2, os, rfl, hos, hown, hb2⟩
   have HE : Hid (RCh q w2 r (pld q n k D) /\ w2.ownsRow w.heap.size 3 1 v2 (onc (ls G k)).length ((onc (ls G k)).map (Value.int .i64)) /\ w.grownBy w2 (some r)) := by
    rw [<- onc_eq hos]
    exact ⟨HRC.out.below hb2, hown.mono HGR.out.size, gb_trans HGR.out (gb_below hb2)⟩
   clear hos hown hb2 HON
   go_wp2_with fail
   go_ret
   exact ⟨v2, rfl, HE.out⟩
theorem rfits12_any (q N : Nat) (s r v : Int) (w : World) (hN : N <= 65536) (hv1 : -9223372036854775808 <= v) (hv2 : v <= 9223372036854775807) :
  Calls Tryz.prog 10 #[.agg #[.int .i64 q, .int .i64 (N : Int), .int .i64 s, .int .i64 r], .int .i64 v] w fun e w' => e = .returned (.bool (decide (0 <= v /\ v <= 12 /\ 2 ^ (v.toNat - v.toNat / 2) <= N / 2))) /\ Below w.heap.size w w' := by
 obtain ⟨W0, hW0⟩ : ∃ W0, W0 = w.alloc (.cells #[.int .i64 q, .int .i64 (N : Int), .int .i64 s, .int .i64 r] 39) := ⟨_, rfl⟩
 have hb0 : Below w.heap.size w W0 := by rw [hW0]; exact (Below.refl _ _).alloc (Nat.le_refl _) _
 have hs0 : W0.heap[w.heap.size]? = some (.cells #[.int .i64 q, .int .i64 (N : Int), .int .i64 s, .int .i64 r] 39 (0, 0)) := by rw [hW0]; exact heap_alloc_new w _
 have HB0 := hid hb0
 by_cases h0 : v < 0
 ·rw [decide_eq_false (show ¬ (0 <= v /\ v <= 12 /\ 2 ^ (v.toNat - v.toNat / 2) <= N / 2) from fun h => by omega)]
  have HW0 := hid hW0
  clear hb0 hs0 hW0
  go_enter Tryz.func10, Tryz.ntmps10
  go_wp2_with fail
  rw [<- HW0.out]
  go_ret
  exact ⟨rfl, HB0.out⟩
 ·by_cases h12 : 12 < v
  ·rw [decide_eq_false (show ¬ (0 <= v /\ v <= 12 /\ 2 ^ (v.toNat - v.toNat / 2) <= N / 2) from fun h => by omega)]
   have HW0 := hid hW0
   clear hb0 hs0 hW0
   go_enter Tryz.func10, Tryz.ntmps10
   go_wp2_with fail
   rw [<- HW0.out]
   go_ret
   exact ⟨rfl, HB0.out⟩
  ·obtain ⟨v', rfl⟩ := Int.eq_ofNat_of_zero_le (show 0 <= v by omega)
   obtain ⟨lo, hlo⟩ : ∃ lo, lo = v' - v' / 2 := ⟨_, rfl⟩
   have HD : Hid (decide (0 <= (v' : Int) /\ (v' : Int) <= 12 /\ 2 ^ ((v' : Int).toNat - (v' : Int).toNat / 2) <= N / 2) = decide (2 ^ lo <= N / 2)) := by
    unfold Hid
    rw [Int.toNat_natCast, <- hlo]
    congr 1
    simp
    omega
   rw [HD.out]
   have q1 : (v' : Int).tdiv 2 = ((v' / 2 : Nat) : Int) := by rw [Int.tdiv_eq_ediv_of_nonneg (by omega)]; omega
   have q0 : (v' : Int) / 2 = ((v' / 2 : Nat) : Int) := by omega
   have q2 : IntKind.i64.wrap ((v' / 2 : Nat) : Int) = ((v' / 2 : Nat) : Int) := by rw [IntKind.wrap_i64]; omega
   have q3 : (v' : Int) - ((v' / 2 : Nat) : Int) = (lo : Int) := by omega
   have q4 : IntKind.i64.wrap (lo : Int) = (lo : Int) := by rw [IntKind.wrap_i64]; omega
   have n0 : (N : Int).tdiv 2 = ((N / 2 : Nat) : Int) := by rw [Int.tdiv_eq_ediv_of_nonneg (by omega)]; omega
   have n1 : (N : Int) / 2 = ((N / 2 : Nat) : Int) := by omega
   have n2 : IntKind.i64.wrap ((N / 2 : Nat) : Int) = ((N / 2 : Nat) : Int) := by rw [IntKind.wrap_i64]; omega
   have HTW := hid (rtwo_any lo W0 (by omega))
   obtain ⟨X, hX⟩ : ∃ X, X = 2 ^ lo := ⟨_, rfl⟩
   rw [<- hX] at HTW ⊢
   have z1 : W0.cell? ⟨w.heap.size, 1, none⟩ = some (.int .i64 (N : Int)) := by simp [World.cell?, hs0]
   generalize v' / 2 = hh at *
   generalize N / 2 = H at *
   have HW0 := hid hW0
   clear hb0 hs0 hW0 HD hX hlo
   go_enter Tryz.func10, Tryz.ntmps10
   go_wp2_with fail
   rw [<- HW0.out]
   clear HW0
   refine HTW.out.mono ?_
   rintro e w1 ⟨rfl, hw1⟩
   have hw1' := hw1.symm
   subst hw1'
   clear hw1
   go_wp2_with fail
   go_ret
   exact ⟨rfl, HB0.out⟩
structure OpI (q rc O : Nat) (W1 W : World) (D : List Int) (rv cv : Value) (M : Nat) (vals : List Value) (C : List (List Int)) (F : Nat -> Value) (Ls : List (Value × List Int)) : Prop where
 g : W1.grownBy W (some rc)
 ch : RCh q W rc D
 rw : W.ownsRow W1.heap.size 22 1 rv M vals
 cl : OwnR W1.heap.size W cv C
 o : W.rowIs O 33 6 F
 al : AlS F
 ls : ∀ p, p ∈ Ls -> SlR W p.2 p.1
theorem OpI.below {q rc O M : Nat} {W1 W W' : World} {D : List Int} {rv cv : Value} {vals : List Value} {C : List (List Int)} {F : Nat -> Value} {Ls : List (Value × List Int)} (h : OpI q rc O W1 W D rv cv M vals C F Ls) (e : Below W.heap.size W W') : OpI q rc O W1 W' D rv cv M vals C F Ls :=
 ⟨gb_trans h.g (gb_below e), h.ch.below e, own_step h.rw e, h.cl.keep e, World.rowIs.of_block h.o (e.block O (World.rowIs.lt h.o)), h.al, fun p hp => (h.ls p hp).keep e⟩
theorem OpI.step {q rc O M : Nat} {W1 W W' : World} {D D' : List Int} {rv cv : Value} {vals : List Value} {C : List (List Int)} {F : Nat -> Value} {Ls : List (Value × List Int)} (h : OpI q rc O W1 W D rv cv M vals C F Ls) (e : W.grownBy W' (some rc)) (hc : RCh q W' rc D') (hO : O ≠ rc) : OpI q rc O W1 W' D' rv cv M vals C F Ls :=
 ⟨gb_trans h.g e, hc, own_rstep h.rw h.ch e, h.cl.rstep h.ch e, World.rowIs.of_block h.o (gb_blk e (World.rowIs.lt h.o) hO), h.al, fun p hp => (h.ls p hp).rstep h.ch e⟩
theorem OpI.set {q rc O M i : Nat} {W1 W : World} {D : List Int} {rv cv v : Value} {vals : List Value} {C : List (List Int)} {F F' : Nat -> Value} {Ls : List (Value × List Int)} (h : OpI q rc O W1 W D rv cv M vals C F Ls) (hO1 : W1.heap.size <= O) (hO : O ≠ rc) (ho : (W.setCell ⟨O, i, none⟩ v).rowIs O 33 6 F') (ha : AlS F') : OpI q rc O W1 (W.setCell ⟨O, i, none⟩ v) D rv cv M vals C F' Ls := by
 have hgb : W.grownBy (W.setCell ⟨O, i, none⟩ v) (some O) := gb_setCell (gb_refl _ _) i v
 have hne : ∀ (cs : Array Value) (f : Nat × Nat), W.heap[O]? ≠ some (.cells cs 3 f) := fun cs f e => by
  obtain ⟨c, h1, _, _⟩ := h.o
  rw [e] at h1
  simp at h1
 exact ⟨⟨h.g.os, h.g.tape, h.g.output, by have := h.g.size; simpa [World.setCell] using this, fun k hk hkr => (Below.heap_setCell _ _ _ _ (by show k ≠ O; omega)).trans (h.g.block k hk hkr)⟩, h.ch.other hgb (fun e => hO e.symm) hne, own_setP h.rw h.o, h.cl.setP h.o h.al, ho, ha, fun p hp => (h.ls p hp).setP h.o h.al⟩
theorem OpI.add {q rc O M : Nat} {W1 W : World} {D : List Int} {rv cv : Value} {vals : List Value} {C : List (List Int)} {F : Nat -> Value} {Ls : List (Value × List Int)} (h : OpI q rc O W1 W D rv cv M vals C F Ls) {u : Value} {l : List Int} (hu : SlR W l u) : OpI q rc O W1 W D rv cv M vals C F ((u, l) :: Ls) :=
 ⟨h.g, h.ch, h.rw, h.cl, h.o, h.al, fun p hp => by
  rcases List.mem_cons.1 hp with rfl | hp
  ·exact hu
  ·exact h.ls p hp⟩
theorem slr_arrF {w : World} {g n : Nat} {f : Nat -> Int} {l : List Int} (h : ArrI w g 3 n f) (hl : l.length = n) (hz : ∀ j, j < n -> zat l j = f j) : SlR w l (.slice (some ⟨g, 0, none⟩) n n) :=
 slr_pm (h.congr (fun j hj => (hz j hj).symm)) hl
structure OpE (q rc R : Nat) (w W : World) (D : List Int) (F : Nat -> Value) (Ls : List (Value × List Int)) (Os : List (Value × List (List Int))) : Prop where
 g : w.grownBy W (some rc)
 ch : RCh q W rc D
 o : W.rowIs R 33 6 F
 al : AlS F
 ls : ∀ p, p ∈ Ls -> SlR W p.2 p.1
 os : ∀ p, p ∈ Os -> OwnR 0 W p.1 p.2
theorem OpE.set {q rc R i : Nat} {w W : World} {D : List Int} {F F' : Nat -> Value} {v : Value} {Ls : List (Value × List Int)} {Os : List (Value × List (List Int))} (h : OpE q rc R w W D F Ls Os) (hR1 : w.heap.size <= R) (hR : R ≠ rc) (ho : (W.setCell ⟨R, i, none⟩ v).rowIs R 33 6 F') (ha : AlS F') : OpE q rc R w (W.setCell ⟨R, i, none⟩ v) D F' Ls Os := by
 have hgb : W.grownBy (W.setCell ⟨R, i, none⟩ v) (some R) := gb_setCell (gb_refl _ _) i v
 have hne : ∀ (cs : Array Value) (f : Nat × Nat), W.heap[R]? ≠ some (.cells cs 3 f) := fun cs f e => by
  obtain ⟨c, h1, _, _⟩ := h.o
  rw [e] at h1
  simp at h1
 exact ⟨⟨h.g.os, h.g.tape, h.g.output, by have := h.g.size; simpa [World.setCell] using this, fun k hk hkr => (Below.heap_setCell _ _ _ _ (by show k ≠ R; omega)).trans (h.g.block k hk hkr)⟩, h.ch.other hgb (fun e => hR e.symm) hne, ho, ha, fun p hp => (h.ls p hp).setP h.o h.al, fun p hp => (h.os p hp).setP h.o h.al⟩
def opM (q v : Nat) (L : List Int) (t : List Int) : List Int := smr q (2 ^ (v / 2)) L (rwl (2 ^ (v - v / 2)) (2 ^ (v / 2)) t) (2 ^ (v - v / 2))
theorem opM_len (q v : Nat) (L t : List Int) : (opM q v L t).length = 2 ^ (v - v / 2) := smr_len _ _ _ _ _
theorem ropen12_any (q n rc N v asked cT c4 : Nat) (s r : Int) (aT a4 : Option Addr) (t at' D : List Int) (w : World) (h5 : 5 <= q) (h4 : q <= 2147483647) (hpn : Spo.PowIs q n) (hr0 : 0 <= r) (hr1 : r < q) (hs0 : 0 <= s) (hs1 : s < q) (hN1 : 1 <= N) (hN2 : N <= 65536) (hch : RCh q w rc D) (hD : Dig D)
  (RO : ∀ W, w.grownBy W (some rc) -> Lst W.heap.size W aT cT t /\ Lst W.heap.size W a4 c4 at') (hv : v <= 12) (hat : at'.length = v) (ht : t.length = 2 ^ v) (hft : Fits t) (hfa : Fits at') (ha1 : 1 <= asked) (ha : asked <= 64) :
  Calls Tryz.prog 14 #[.pointer (some ⟨rc, 0, none⟩), .agg #[.int .i64 (q : Int), .int .i64 (N : Int), .int .i64 s, .int .i64 r], .slice aT t.length cT, .slice a4 at'.length c4, .int .i64 (asked : Int)] w fun e w' => ∃ (root mixed point : List Int) (D1 D2 : List Int) (pl : List Int) (u0 u1 u2 u3 u4 u5 : Value),
   (root = ctz q n s r N v t /\ D1 = pgD q n root at' D /\ mixed = opM q v (pwl q (zat D1 0) (2 ^ (v / 2))) t /\ point = opM q v (wgL q (at'.take (v / 2))) t /\ D2 = pgE q n mixed point D1 /\ pl = pgP q n N asked D2) /\
   e = .returned (.tuple #[.agg #[u0, u1, u2, u3, u4, u5], .int .i64 (dtz q (2 ^ (v - v / 2)) point (wgL q (at'.drop (v / 2))))]) /\
   (SlR w' root u0 /\ SlR w' mixed u1 /\ SlR w' point u2 /\ SlR w' pl u3 /\ OwnR 0 w' u4 (shw q (cll q s r N (rwl (2 ^ (v - v / 2)) (2 ^ (v / 2)) t)) pl) /\ OwnR 0 w' u5 (ndf q n N (cll q s r N (rwl (2 ^ (v - v / 2)) (2 ^ (v / 2)) t)) pl 0)) /\
   RCh q w' rc (pld q n asked D2) /\ w.grownBy w' (some rc) := by
 have h3 : 3 <= q := by omega
 obtain ⟨ap, o, rfl⟩ := some_of_lst (RO w (gb_refl _ _)).1 (by rw [ht]; exact Nat.two_pow_pos v)
 have hm12 : 2 ^ (v / 2) <= 4096 := by have := Nat.pow_le_pow_right (show 0 < 2 by omega) (show v / 2 <= 12 by omega); omega
 have hst2 : 2 ^ (v - v / 2) <= 4096 := by have := Nat.pow_le_pow_right (show 0 < 2 by omega) (show v - v / 2 <= 12 by omega); omega
 have hM1 : 1 <= 2 ^ (v / 2) := Nat.one_le_two_pow
 have htl : t.length = 2 ^ (v - v / 2) * 2 ^ (v / 2) := by rw [ht]; exact half_two v
 obtain ⟨W1, hW1⟩ : ∃ W1, W1 = (w.alloc (.cells #[.int .i64 (q : Int), .int .i64 (N : Int), .int .i64 s, .int .i64 r] 39)).alloc (.cells #[.slice none 0 0, .slice none 0 0, .slice none 0 0, .slice none 0 0, .slice none 0 0, .slice none 0 0] 33) := ⟨_, rfl⟩
 have hb1 : Below w.heap.size w W1 := by rw [hW1]; exact ((Below.refl _ _).alloc (Nat.le_refl _) _).alloc (by simp) _
 have hz1 : W1.heap.size = w.heap.size + 2 := by rw [hW1]; simp
 obtain ⟨G, hG⟩ : ∃ G, G = w.heap.size := ⟨_, rfl⟩
 obtain ⟨R, hR⟩ : ∃ R, R = w.heap.size + 1 := ⟨_, rfl⟩
 have hsa : W1.heap[G]? = some (.cells #[.int .i64 (q : Int), .int .i64 (N : Int), .int .i64 s, .int .i64 r] 39 (0, 0)) := by
  rw [hW1, hG]
  have hb := (Below.refl (w.alloc (.cells #[.int .i64 (q : Int), .int .i64 (N : Int), .int .i64 s, .int .i64 r] 39)).heap.size (w.alloc (.cells #[.int .i64 (q : Int), .int .i64 (N : Int), .int .i64 s, .int .i64 r] 39))).alloc (Nat.le_refl _) (.cells #[.slice none 0 0, .slice none 0 0, .slice none 0 0, .slice none 0 0, .slice none 0 0, .slice none 0 0] 33)
  exact (hb.block _ (by simp)).trans (heap_alloc_new w _)
 have hsb : W1.rowIs R 33 6 (sx (.slice none 0 0) (.slice none 0 0) (.slice none 0 0) (.slice none 0 0) (.slice none 0 0) (.slice none 0 0)) := by
  rw [hW1, hR]
  have := sx_new (w.alloc (.cells #[.int .i64 (q : Int), .int .i64 (N : Int), .int .i64 s, .int .i64 r] 39)) 33 (.slice none 0 0) (.slice none 0 0) (.slice none 0 0) (.slice none 0 0) (.slice none 0 0) (.slice none 0 0)
  simpa using this
 have hrl := hch.lt
 have hGr : G ≠ rc := by omega
 have hRr : R ≠ rc := by omega
 have HK : Hid (∀ W, W1.grownBy W (some rc) -> (W.cell? ⟨G, 0, none⟩ = some (.int .i64 (q : Int)) /\ W.cell? ⟨G, 1, none⟩ = some (.int .i64 (N : Int)) /\ W.cell? ⟨G, 2, none⟩ = some (.int .i64 s) /\ W.cell? ⟨G, 3, none⟩ = some (.int .i64 r)) /\ W.rowIs R 33 6 (sx (.slice none 0 0) (.slice none 0 0) (.slice none 0 0) (.slice none 0 0) (.slice none 0 0) (.slice none 0 0)) /\ (Lst W.heap.size W (some ⟨ap, o, none⟩) cT t /\ Lst W.heap.size W a4 c4 at') /\ w.grownBy W (some rc)) := fun W hW => by
  have e1 := (gb_blk hW (Array.getElem?_eq_some_iff.1 hsa).1 hGr).trans hsa
  have e2 := World.rowIs.of_block hsb (gb_blk hW (World.rowIs.lt hsb) hRr)
  have e3 := gb_trans (gb_below hb1) hW
  exact ⟨⟨by simp [World.cell?, e1], by simp [World.cell?, e1], by simp [World.cell?, e1], by simp [World.cell?, e1]⟩, e2, RO W e3, e3⟩
 obtain ⟨hi, hhi⟩ : ∃ hi, hi = v / 2 := ⟨_, rfl⟩
 obtain ⟨lo, hlo⟩ : ∃ lo, lo = v - v / 2 := ⟨_, rfl⟩
 have q1 : (v : Int).tdiv 2 = (hi : Int) := by rw [Int.tdiv_eq_ediv_of_nonneg (by omega)]; omega
 have q0 : (v : Int) / 2 = (hi : Int) := by omega
 have q2 : IntKind.i64.wrap (hi : Int) = (hi : Int) := by rw [IntKind.wrap_i64]; omega
 obtain ⟨st, hst⟩ : ∃ st, st = 2 ^ (v - v / 2) := ⟨_, rfl⟩
 obtain ⟨M, hM⟩ : ∃ M, M = 2 ^ (v / 2) := ⟨_, rfl⟩
 have HRO := hid (rrows12_own v ap o cT M t W1 hv ht (by rw [hM]; exact half_two v) (RO W1 (gb_below hb1)).1)
 obtain ⟨rows, hrows⟩ : ∃ rows, rows = rwl st M t := ⟨_, rfl⟩
 have HRW : Hid (∀ (W : World) (x : Value), w.grownBy W (some rc) -> W.ownsRow W1.heap.size 22 1 x M ((List.range M).map (chr ap o cT st)) -> ∃ a c, x = .slice a M c /\ LstR W.heap.size W a c rows) := fun W x hW ho => by
  rw [hrows]
  exact rows_of_ownsR (by rw [htl, hst, hM]) (by have := (RO W hW).1.room; rw [hst, hM, <- htl]; exact this) ho (RO W hW).1.row
 have hrl2 : rows.length = M := by rw [hrows, rwl_len]
 have hrF : FitsR rows := by rw [hrows, hst]; exact rwl_fits (by rw [htl, hM]) hft hst2
 have hrwd : ∀ k, k < rows.length -> (rat rows k).length = st := fun k hk => by rw [hrows]; exact rwl_wide (by rw [htl, hst, hM]) (by rw [hrl2] at hk; exact hk)
 obtain ⟨C, hC⟩ : ∃ C, C = cll q s r N rows := ⟨_, rfl⟩
 have HCO : Hid (∀ (W : World) (c : Nat) (a : Option Addr), LstR W.heap.size W a c rows -> Calls Tryz.prog 42 #[.agg #[.int .i64 (q : Int), .int .i64 (N : Int), .int .i64 s, .int .i64 r], .slice a M c] W fun e w' => ∃ x, e = .returned x /\ OwnR W.heap.size w' x C /\ Below W.heap.size W w') := fun W c a hla => by
  rw [hC]
  exact rcolumns12_own q M N c s r a rows W h3 h4 hN1 hN2 hr0 hr1 hs0 hs1 hrl2 (by rw [hM]; exact hm12) hrF hla
 have hCl : C.length = N := by rw [hC, cll_len]
 have hCF : FitsR C := by rw [hC]; exact cll_fits h3 h4 s r N rows hN2 (by rw [hrl2, hM]; exact hm12)
 obtain ⟨root, hroot⟩ : ∃ root, root = ctz q n s r N v t := ⟨_, rfl⟩
 have hrt4 : root.length = 4 := by rw [hroot]; exact rtf_len _ _ _ _ hN1
 have hrtf : Fits root := by
  rw [hroot]
  unfold ctz
  exact fun j hj => rtf_fits h3 h4 _ _ _ _ hj
 have HRT : Hid (∀ (W : World) (c : Nat) (a : Option Addr), LstR W.heap.size W a c C -> Calls Tryz.prog 43 #[.int .i64 (q : Int), .slice a N c] W fun e w' => ∃ a' c', e = .returned (.slice a' 4 c') /\ SlR w' root (.slice a' 4 c') /\ Below W.heap.size W w') := fun W c a hla => by
  have h := rroot_any2 q n h5 h4 hpn N c a C W (by omega) (by omega) (by omega) hCF hla
  rw [hCl] at h
  refine h.mono ?_
  rintro e w' ⟨g, NN, rfl, _, h1, h2⟩
  have h6 := h1.slr
  rw [rtf_len _ _ _ _ hN1] at h6
  refine ⟨some ⟨g, 0, none⟩, NN, rfl, ?_, h2⟩
  rw [hroot]
  unfold ctz
  rw [<- hst, <- hM, <- hrows, <- hC]
  exact h6
 obtain ⟨D1, hD1⟩ : ∃ D1, D1 = pgD q n root at' D := ⟨_, rfl⟩
 obtain ⟨r0, hr0'⟩ : ∃ r0, r0 = zat D1 0 := ⟨_, rfl⟩
 have hdD1 : Dig D1 := by rw [hD1]; exact dig_digl h3 h4 _ _
 have hr0b : -9223372036854775808 <= r0 /\ r0 <= 9223372036854775807 := by rw [hr0']; exact hdD1.2 0 (by rw [hdD1.1]; omega)
 obtain ⟨mixed, hmixed⟩ : ∃ mixed, mixed = opM q v (pwl q r0 M) t := ⟨_, rfl⟩
 obtain ⟨point, hpoint⟩ : ∃ point, point = opM q v (wgL q (at'.take hi)) t := ⟨_, rfl⟩
 have hml : mixed.length = st := by rw [hmixed, opM_len, hst]
 have hpl : point.length = st := by rw [hpoint, opM_len, hst]
 have hmf : Fits mixed := by rw [hmixed]; exact smr_fits h4 h3 _ _ _ _
 have hpf : Fits point := by rw [hpoint]; exact smr_fits h4 h3 _ _ _ _
 obtain ⟨D2, hD2⟩ : ∃ D2, D2 = pgE q n mixed point D1 := ⟨_, rfl⟩
 have hdD2 : Dig D2 := by rw [hD2]; exact dig_digl h3 h4 _ _
 obtain ⟨pl, hpl'⟩ : ∃ pl, pl = pgP q n N asked D2 := ⟨_, rfl⟩
 have HPW := hid (fun W => rpowers_any q M r0 W h3 h4 hr0b.1 hr0b.2 (by rw [hM]; omega))
 have HSU : Hid (∀ (W : World) (c1 c2 : Nat) (a1 a2 : Option Addr) (L : List Int), L.length = M -> Fits L -> LstR W.heap.size W a1 c1 rows -> RowB W.heap.size W a2 L -> Calls Tryz.prog 46 #[.int .i64 q, .slice a1 M c1, .slice a2 M c2] W fun e w' => e = .returned (.slice (some ⟨W.heap.size, 0, none⟩) st st) /\ SlR w' (opM q v L t) (.slice (some ⟨W.heap.size, 0, none⟩) st st) /\ Below W.heap.size W w') := fun W c1 c2 a1 a2 L hL hLf h1 h2 => by
  have h := rsum12_any q c1 c2 st a1 a2 rows L W h3 h4 (by rw [hrl2, hM]; exact hM1) (by rw [hrl2, hM]; omega) (by rw [hst]; omega) hrwd (by rw [hrl2, hL]; exact Nat.le_refl _) hrF hLf h1 h2
  rw [hrl2, hL] at h
  refine h.mono ?_
  rintro e w' ⟨rfl, hA, hb⟩
  refine ⟨rfl, slr_arrF hA (by rw [opM_len, hst]) (fun j hj => ?_), hb⟩
  unfold opM smr
  rw [<- hst, <- hM, <- hrows, ls_at _ _ _ hj]
 have HUN : Hid (∀ (W : World) (c : Nat) (a : Option Addr) (l : List Int), l.length <= 12 -> Fits l -> RowB W.heap.size W a l -> Calls Tryz.prog 47 #[.int .i64 q, .slice a l.length c] W fun e w' => ∃ x, e = .returned x /\ w'.ownsRow W.heap.size 3 1 x (wgL q l).length ((wgL q l).map (Value.int .i64)) /\ Below W.heap.size W w') := fun W c a l h1 h2 h6 => runits_any q c a l W h3 h4 h1 h2 h6
 have HST : Hid (∀ (W : World) (cap : Nat) (a : Option Addr) (l D : List Int), Dig D -> l.length <= 17592186043904 -> Fits l -> RCh q W rc D -> Lst W.heap.size W a cap l -> Calls Tryz.prog 40 #[.pointer (some ⟨rc, 0, none⟩), .int .i64 3, .slice a l.length cap] W fun e w' => e = .returned (.tuple #[]) /\ RCh q w' rc (digl q n (3 :: (D ++ l))) /\ W.grownBy w' (some rc)) := fun W cap a l D hD hlen hf hr hla => rstep_any q n rc cap 3 a l D W h5 h4 hpn (by omega) (by rw [hD.1]; omega) hD.2 hf hr hla
 have HDR : Hid (∀ (W : World) (D : List Int), Dig D -> RCh q W rc D -> Calls Tryz.prog 44 #[.pointer (some ⟨rc, 0, none⟩)] W fun e w' => e = .returned (.int .i64 (zat (digl q n (4 :: D)) 0)) /\ RCn q w' rc (digl q n (4 :: D)) W.heap.size /\ W.grownBy w' (some rc)) := fun W D hD hr => rdraw_new q n rc D W h5 h4 hpn (by rw [hD.1]; omega) hD.2 hr
 have HDW : Hid (∀ W, RCh q W rc D2 -> Calls Tryz.prog 48 #[.pointer (some ⟨rc, 0, none⟩), .int .i64 (N : Int), .int .i64 (asked : Int)] W fun e w' => ∃ x, e = .returned x /\ RCh q w' rc (pld q n asked D2) /\ w'.ownsRow W.heap.size 3 1 x pl.length (pl.map (Value.int .i64)) /\ W.grownBy w' (some rc)) := fun W hr => by
  rw [hpl']
  exact rdraw12_any q n rc N asked D2 W h5 h4 hpn (by rw [hdD2.1]; omega) hdD2.2 hr hN1 hN2 (by omega)
 have HOP : Hid (∀ (W : World) (c cp : Nat) (a ap : Option Addr), LstR W.heap.size W a c C -> RowB W.heap.size W ap pl -> Calls Tryz.prog 49 #[.int .i64 q, .slice a N c, .slice ap pl.length cp] W fun e w' => ∃ v3 v4 v5, e = .returned (.agg #[v3, v4, v5]) /\ SlR w' pl v3 /\ OwnR W.heap.size w' v4 (shw q C pl) /\ OwnR W.heap.size w' v5 (ndf q n N C pl 0) /\ Below W.heap.size W w') := fun W c cp a ap hla hlp => by
  have hple : pl.length <= asked := by
   rw [hpl']
   unfold pgP
   have h := asc_le (onc_is (ls (plz q n N D2) asked)).1 (fun x hx => ((onc_is (ls (plz q n N D2) asked)).2 x).1 hx)
   rw [ls_len] at h
   exact h
  have hin : ∀ x, x ∈ pl -> 0 <= x /\ x < (C.length : Int) := fun x hx => by
   rw [hpl'] at hx
   unfold pgP at hx
   have hx2 := ((onc_is _).2 x).1 hx
   unfold ls at hx2
   obtain ⟨i, _, rfl⟩ := List.mem_map.1 hx2
   rw [hCl]
   exact plz_bounds (by omega) _ _
  have h := ropen_any q n c cp a ap C pl W h5 h4 hpn (by omega) (by omega) hCF hla (by omega) hlp hin
  rw [hCl] at h
  refine h.mono ?_
  rintro e w' ⟨os, v3, v4, v5, rfl, hos, k3, k4, k5, k6⟩
  have hop : os = pl := by
   have h7 : OnceIs pl pl := by
    rw [hpl']
    unfold pgP
    exact ⟨(onc_is _).1, fun x => Iff.rfl⟩
   rw [onc_eq hos, <- onc_eq h7]
  subst hop
  exact ⟨v3, v4, v5, rfl, k3, k4, k5, k6⟩
 obtain ⟨val, hval⟩ : ∃ val, val = dtz q st point (wgL q (at'.drop hi)) := ⟨_, rfl⟩
 have HDT : Hid (∀ (W : World) (c1 c2 : Nat) (a1 a2 : Option Addr), RowB W.heap.size W a1 point -> RowB W.heap.size W a2 (wgL q (at'.drop hi)) -> Calls Tryz.prog 50 #[.int .i64 q, .slice a1 st c1, .slice a2 st c2] W fun e w' => e = .returned (.int .i64 val) /\ Below W.heap.size W w') := fun W c1 c2 a1 a2 k1 k2 => by
  have hwl : (wgL q (at'.drop hi)).length = st := by rw [wgL_len, List.length_drop, hat, hhi, hst]
  have h := rdot_any q c1 c2 a1 a2 point (wgL q (at'.drop hi)) W h3 h4 (by rw [hpl, hst]; omega) (by rw [hpl, hwl]; exact Nat.le_refl _) hpf (wgL_fits h4 h3 _) k1 k2
  rw [hpl, hwl] at h
  rw [hval]
  exact h
 obtain ⟨S4, hS4⟩ : ∃ S4, S4 = shw q C pl := ⟨_, rfl⟩
 obtain ⟨S5, hS5⟩ : ∃ S5, S5 = ndf q n N C pl 0 := ⟨_, rfl⟩
 obtain ⟨D3, hD3⟩ : ∃ D3, D3 = pld q n asked D2 := ⟨_, rfl⟩
 rw [<- hS4, <- hS5] at HOP
 rw [<- hD3] at HDW
 obtain ⟨L, hL⟩ : ∃ L, L = 2 ^ v := ⟨_, rfl⟩
 suffices H : Calls Tryz.prog 14 #[.pointer (some ⟨rc, 0, none⟩), .agg #[.int .i64 (q : Int), .int .i64 (N : Int), .int .i64 s, .int .i64 r], .slice (some ⟨ap, o, none⟩) L cT, .slice a4 v c4, .int .i64 (asked : Int)] w fun e w' => ∃ (u0 u1 u2 u3 u4 u5 : Value), e = .returned (.tuple #[.agg #[u0, u1, u2, u3, u4, u5], .int .i64 val]) /\
   (SlR w' root u0 /\ SlR w' mixed u1 /\ SlR w' point u2 /\ SlR w' pl u3 /\ OwnR 0 w' u4 S4 /\ OwnR 0 w' u5 S5) /\ RCh q w' rc D3 /\ w.grownBy w' (some rc) by
  rw [ht, hat, <- hL, <- hM, <- hst, <- hhi, <- hrows, <- hC]
  refine H.mono ?_
  rintro e w' ⟨u0, u1, u2, u3, u4, u5, rfl, k1, k2, k3⟩
  rw [hval, hS4, hS5] at *
  refine ⟨root, mixed, point, D1, D2, pl, u0, u1, u2, u3, u4, u5, ⟨hroot, hD1, by rw [hmixed, hr0'], hpoint, hD2, hpl'⟩, rfl, k1, by rw [<- hD3]; exact k2, k3⟩
 rw [<- hL, <- hst] at HRO
 obtain ⟨Da, hDa⟩ : ∃ Da, Da = digl q n (3 :: (D ++ root)) := ⟨_, rfl⟩
 obtain ⟨Db, hDb⟩ : ∃ Db, Db = digl q n (3 :: (Da ++ at')) := ⟨_, rfl⟩
 obtain ⟨Dc, hDc⟩ : ∃ Dc, Dc = digl q n (3 :: (D1 ++ mixed)) := ⟨_, rfl⟩
 have hD1b : D1 = digl q n (4 :: Db) := by rw [hD1, hDb, hDa]; rfl
 have hD2b : D2 = digl q n (3 :: (Dc ++ point)) := by rw [hD2, hDc]; rfl
 have hdDa : Dig Da := by rw [hDa]; exact dig_digl h3 h4 _ _
 have hdDb : Dig Db := by rw [hDb]; exact dig_digl h3 h4 _ _
 have hdDc : Dig Dc := by rw [hDc]; exact dig_digl h3 h4 _ _
 have HS1 : Hid (∀ (W : World) (cap : Nat) (a : Option Addr), RCh q W rc D -> Lst W.heap.size W a cap root -> Calls Tryz.prog 40 #[.pointer (some ⟨rc, 0, none⟩), .int .i64 3, .slice a 4 cap] W fun e w' => e = .returned (.tuple #[]) /\ RCh q w' rc Da /\ W.grownBy w' (some rc)) := fun W cap a k1 k2 => by
  have h := HST.out W cap a root D hD (by omega) hrtf k1 k2
  rw [hrt4, <- hDa] at h
  exact h
 have HS2 : Hid (∀ (W : World), RCh q W rc Da -> Lst W.heap.size W a4 c4 at' -> Calls Tryz.prog 40 #[.pointer (some ⟨rc, 0, none⟩), .int .i64 3, .slice a4 v c4] W fun e w' => e = .returned (.tuple #[]) /\ RCh q w' rc Db /\ W.grownBy w' (some rc)) := fun W k1 k2 => by
  have h := HST.out W c4 a4 at' Da hdDa (by omega) hfa k1 k2
  rw [hat, <- hDb] at h
  exact h
 have HS3 : Hid (∀ (W : World) (cap : Nat) (a : Option Addr), RCh q W rc D1 -> Lst W.heap.size W a cap mixed -> Calls Tryz.prog 40 #[.pointer (some ⟨rc, 0, none⟩), .int .i64 3, .slice a st cap] W fun e w' => e = .returned (.tuple #[]) /\ RCh q w' rc Dc /\ W.grownBy w' (some rc)) := fun W cap a k1 k2 => by
  have h := HST.out W cap a mixed D1 hdD1 (by rw [hml, hst]; omega) hmf k1 k2
  rw [hml, <- hDc] at h
  exact h
 have HS4 : Hid (∀ (W : World) (cap : Nat) (a : Option Addr), RCh q W rc Dc -> Lst W.heap.size W a cap point -> Calls Tryz.prog 40 #[.pointer (some ⟨rc, 0, none⟩), .int .i64 3, .slice a st cap] W fun e w' => e = .returned (.tuple #[]) /\ RCh q w' rc D2 /\ W.grownBy w' (some rc)) := fun W cap a k1 k2 => by
  have h := HST.out W cap a point Dc hdDc (by rw [hpl, hst]; omega) hpf k1 k2
  rw [hpl, <- hD2b] at h
  exact h
 have HDA : Hid (∀ (W : World), RCh q W rc Db -> Calls Tryz.prog 44 #[.pointer (some ⟨rc, 0, none⟩)] W fun e w' => e = .returned (.int .i64 r0) /\ RCh q w' rc D1 /\ W.grownBy w' (some rc)) := fun W k1 => by
  have h := HDR.out W Db hdDb k1
  rw [<- hD1b, <- hr0'] at h
  exact h.mono (fun e w' k => ⟨k.1, k.2.1.rch, k.2.2⟩)
 have hhv : hi <= v := by omega
 have htk : (at'.take hi).length = hi := by rw [List.length_take, hat]; omega
 have hdr : (at'.drop hi).length = v - hi := by rw [List.length_drop, hat]
 have HU1 : Hid (∀ W, Lst W.heap.size W a4 c4 at' -> Calls Tryz.prog 47 #[.int .i64 q, .slice a4 hi c4] W fun e w' => ∃ x, e = .returned x /\ w'.ownsRow W.heap.size 3 1 x (wgL q (at'.take hi)).length ((wgL q (at'.take hi)).map (Value.int .i64)) /\ Below W.heap.size W w') := fun W hW => by
  have h := HUN.out W c4 a4 (at'.take hi) (by rw [htk]; omega) (fun j hj => by
   rw [htk] at hj
   have := hfa.all j
   simp only [zat, List.getElem?_take, if_pos hj] at this ⊢
   exact this) (fun k hk => by
   rw [htk] at hk
   obtain ⟨b', o', e1, e2, e3⟩ := hW.row k (by rw [hat]; omega)
   refine ⟨b', o', e1, e2, ?_⟩
   rw [e3]
   simp only [zat, List.getElem?_take, if_pos hk])
  rw [htk] at h
  exact h
 obtain ⟨AA, hAA⟩ : ∃ AA, AA = (if c4 = hi then a4 else a4.map (fun x => x.add hi)) := ⟨_, rfl⟩
 have HU2 : Hid (∀ W, Lst W.heap.size W a4 c4 at' -> Calls Tryz.prog 47 #[.int .i64 q, .slice AA (v - hi) (c4 - hi)] W fun e w' => ∃ x, e = .returned x /\ w'.ownsRow W.heap.size 3 1 x (wgL q (at'.drop hi)).length ((wgL q (at'.drop hi)).map (Value.int .i64)) /\ Below W.heap.size W w') := fun W hW => by
  have hroom := hW.room
  rw [hat] at hroom
  have h := HUN.out W (c4 - hi) AA (at'.drop hi) (by rw [hdr]; omega) (fun j hj => by
   have := hfa.all (hi + j)
   simp only [zat, List.getElem?_drop] at this ⊢
   exact this) (fun k hk => by
   rw [hdr] at hk
   obtain ⟨b', o', e1, e2, e3⟩ := hW.row (hi + k) (by rw [hat]; omega)
   refine ⟨b', o' + hi, ?_, e2, ?_⟩
   ·rw [hAA, if_neg (by omega), e1]
    simp only [Option.map_some, Addr.add]
    split
    ·next h0 => rw [h0, Nat.add_zero]
    ·rfl
   ·rw [show o' + hi + k = o' + (hi + k) from by omega, e3]
    simp only [zat, List.getElem?_drop])
  rw [hdr] at h
  exact h
 have HWL : Hid ((wgL q (at'.take hi)).length = M /\ Fits (wgL q (at'.take hi)) /\ (wgL q (at'.drop hi)).length = st) := by
  refine ⟨by rw [wgL_len, htk, hhi, hM], wgL_fits h4 h3 _, by rw [wgL_len, hdr, hhi, hst]⟩
 obtain ⟨L1, hL1⟩ : ∃ L1, L1 = wgL q (at'.take hi) := ⟨_, rfl⟩
 obtain ⟨L2, hL2⟩ : ∃ L2, L2 = wgL q (at'.drop hi) := ⟨_, rfl⟩
 obtain ⟨L0, hL0⟩ : ∃ L0, L0 = pwl q r0 M := ⟨_, rfl⟩
 have hL0l : L0.length = M := by rw [hL0, pwl_len]
 have hL0f : Fits L0 := by rw [hL0]; exact pwl_fits h4 h3 _ _
 rw [<- hL1] at HU1
 rw [<- hL2] at HU2 HDT
 rw [<- hL0] at HPW
 rw [<- hL1, <- hL2] at HWL
 have HM1 : Hid (∀ (W : World) (c1 c2 : Nat) (a1 a2 : Option Addr), LstR W.heap.size W a1 c1 rows -> RowB W.heap.size W a2 L0 -> Calls Tryz.prog 46 #[.int .i64 q, .slice a1 M c1, .slice a2 M c2] W fun e w' => e = .returned (.slice (some ⟨W.heap.size, 0, none⟩) st st) /\ SlR w' mixed (.slice (some ⟨W.heap.size, 0, none⟩) st st) /\ Below W.heap.size W w') := fun W c1 c2 a1 a2 k1 k2 => by
  have h := HSU.out W c1 c2 a1 a2 L0 hL0l hL0f k1 k2
  rw [hL0, <- hmixed] at h
  exact h
 have HM2 : Hid (∀ (W : World) (c1 c2 : Nat) (a1 a2 : Option Addr), LstR W.heap.size W a1 c1 rows -> RowB W.heap.size W a2 L1 -> Calls Tryz.prog 46 #[.int .i64 q, .slice a1 M c1, .slice a2 M c2] W fun e w' => e = .returned (.slice (some ⟨W.heap.size, 0, none⟩) st st) /\ SlR w' point (.slice (some ⟨W.heap.size, 0, none⟩) st st) /\ Below W.heap.size W w') := fun W c1 c2 a1 a2 k1 k2 => by
  have h := HSU.out W c1 c2 a1 a2 L1 HWL.out.1 HWL.out.2.1 k1 k2
  rw [hL1, <- hpoint] at h
  exact h
 have HQ : Hid (L0.length = M /\ C.length = N /\ rows.length = M /\ root.length = 4 /\ mixed.length = st /\ point.length = st /\ 1 <= M /\ M <= 4096 /\ st <= 4096 /\ hi <= v /\ v <= 12) := ⟨hL0l, hCl, hrl2, hrt4, hml, hpl, by rw [hM]; exact hM1, by rw [hM]; exact hm12, by rw [hst]; exact hst2, hhv, hv⟩
 have HAA := hid hAA
 have HAT := hid hat
 have HW1 := hid hW1
 have HGE := hid hG
 have HRE := hid hR
 have HB1 := hid hb1
 have HZ1 := hid hz1
 have HSA := hid hsa
 have HSB := hid hsb
 have HCH := hid hch
 have HNE : Hid (G ≠ rc /\ R ≠ rc /\ rc < w.heap.size) := ⟨hGr, hRr, hrl⟩
 have hiv2 : (hi : Int) <= (v : Int) := by omega
 have hi0 : (0 : Int) <= (hi : Int) := by omega
 clear hAA hat hW1 hG hR hb1 hz1 hsa hsb hch hGr hRr hrl hhv htk hdr hL0l hL0f hL0 hL1 hL2 hCl hrl2 hrt4 hml hpl hM1 hm12 hst2 hDa hDb hDc hD1b hD2b hdDa hdDb hdDc hD1 hD2 hdD1 hdD2 hr0b hr0' hroot hrtf hmixed hpoint hmf hpf hpl' hval hS4 hS5 hD3 hL hC hCF hrF hrwd hrows hM hst hlo hhi htl ht hft hfa hv RO hD hpn hr0 hr1 hs0 hs1 hN1 hN2 HSU HUN HST HDR ha ha1 h5 h3 h4
 go_enter Tryz.func14, Tryz.ntmps14
 obtain ⟨z0, z1, z2, z3⟩ : W1.cell? ⟨G, 0, none⟩ = some (.int .i64 (q : Int)) /\ W1.cell? ⟨G, 1, none⟩ = some (.int .i64 (N : Int)) /\ W1.cell? ⟨G, 2, none⟩ = some (.int .i64 s) /\ W1.cell? ⟨G, 3, none⟩ = some (.int .i64 r) := (HK.out W1 (gb_refl _ _)).1
 rw [HGE.out, HW1.out] at z0
 go_wp2_with fail
 rw [<- HGE.out, <- HW1.out]
 refine HRO.out.mono ?_
 rintro e w2 ⟨rv, rfl, hown2, hb2⟩
 have HG2 : Hid (W1.grownBy w2 (some rc)) := gb_below hb2
 obtain ⟨ar, cr, rfl, hlr⟩ := HRW.out w2 rv (HK.out w2 HG2.out).2.2.2 hown2
 clear z0 z1 z2 z3
 obtain ⟨z0, z1, z2, z3⟩ := (HK.out w2 HG2.out).1
 have HOW2 := hid hown2
 have HC2 : Hid (RCh q w2 rc D) := (HCH.out.below HB1.out).below hb2
 have HCX := hid (HCO.out w2 cr ar hlr)
 clear hown2 hb2 hlr HRO HCO
 go_wp2_with fail
 refine HCX.out.mono ?_
 rintro e w3 ⟨cv, rfl, hcv, hb3⟩
 obtain ⟨O, hO⟩ : ∃ O, O = w3.heap.size := ⟨_, rfl⟩
 obtain ⟨W4, hW4⟩ : ∃ W4, W4 = w3.alloc (.cells #[.slice none 0 0, .slice none 0 0, .slice none 0 0, .slice none 0 0, .slice none 0 0, .slice none 0 0] 33) := ⟨_, rfl⟩
 have hb4 : Below w2.heap.size w2 W4 := by rw [hW4]; exact hb3.alloc hb3.size _
 have hb34 : Below w3.heap.size w3 W4 := by rw [hW4]; exact (Below.refl _ _).alloc (Nat.le_refl _) _
 have ho4 : W4.rowIs O 33 6 (sx (.slice none 0 0) (.slice none 0 0) (.slice none 0 0) (.slice none 0 0) (.slice none 0 0) (.slice none 0 0)) := by rw [hW4, hO]; exact sx_new w3 _ _ _ _ _ _ _
 have HOR : Hid (O ≠ rc /\ W1.heap.size <= O) := by
  have k1 := HC2.out.lt
  have k2 := hb3.size
  have k3 := HG2.out.size
  exact ⟨by omega, by omega⟩
 have HI4 : Hid (OpI q rc O W1 W4 D (.slice ar M cr) cv M ((List.range M).map (chr ap o cT st)) C (sx (.slice none 0 0) (.slice none 0 0) (.slice none 0 0) (.slice none 0 0) (.slice none 0 0) (.slice none 0 0)) []) :=
  ⟨gb_trans HG2.out (gb_below hb4), HC2.out.below hb4, own_step HOW2.out hb4, (hcv.keep hb34).mono HG2.out.size, ho4, alS (isS _ _ _) (isS _ _ _) (isS _ _ _) (isS _ _ _) (isS _ _ _) (isS _ _ _), fun p hp => by cases hp⟩
 obtain ⟨ac, cc, ecv, hlc⟩ := HI4.out.cl.lst
 rw [HQ.out.2.1] at ecv
 subst ecv
 have HRX := hid (HRT.out W4 cc ac hlc)
 have HW4 := hid hW4
 have HO4 := hid hO
 clear z0 z1 z2 z3
 obtain ⟨z0, z1, z2, z3⟩ := (HK.out w3 (gb_trans HG2.out (gb_below hb3))).1
 clear hcv hb3 hb4 hb34 hW4 ho4 hlc hO HOW2 HC2 HCX HRT
 go_wp2_with fail
 rw [<- HO4.out, <- HW4.out]
 clear z0 z1 z2 z3
 refine HRX.out.mono ?_
 rintro e w5 ⟨a5, c5, rfl, hs5, hb5⟩
 have HI5 := hid ((HI4.out.below hb5).add hs5)
 have y1 := HI5.out.o.frozen 0
 have y2 := HI5.out.o.cell (i := 0) (by omega)
 obtain ⟨W6, hW6⟩ : ∃ W6, W6 = w5.setCell ⟨O, 0, none⟩ (.slice a5 4 c5) := ⟨_, rfl⟩
 have HI6 : Hid (OpI q rc O W1 W6 D (.slice ar M cr) (.slice ac N cc) M ((List.range M).map (chr ap o cT st)) C (sx (.slice a5 4 c5) (.slice none 0 0) (.slice none 0 0) (.slice none 0 0) (.slice none 0 0) (.slice none 0 0)) [(.slice a5 4 c5, root)]) := by
  rw [hW6]
  exact HI5.out.set HOR.out.2 HOR.out.1 (sx_set0 HI5.out.o _) (alS (isS _ _ _) (isS _ _ _) (isS _ _ _) (isS _ _ _) (isS _ _ _) (isS _ _ _))
 have hz6 := HI6.out.o.cell (i := 0) (by omega)
 have HW6 := hid hW6
 have HS6 : Hid (∃ a' c', Value.slice a5 4 c5 = .slice a' 4 c' /\ Lst W6.heap.size W6 a' c' root) := by
  obtain ⟨a', c', e1, e2⟩ := (HI6.out.ls _ (List.mem_cons_self)).lst
  rw [HQ.out.2.2.2.1] at e1
  exact ⟨a', c', e1, e2⟩
 obtain ⟨_, _, e1, hl6⟩ := HS6.out
 cases e1
 have HSX := hid (HS1.out W6 c5 a5 HI6.out.ch hl6)
 clear HI5 hs5 hb5 hW6 HS6 hl6 HI4 HRX HS1
 go_wp2_with fail
 rw [<- HW6.out]
 refine HSX.out.mono ?_
 rintro e w7 ⟨rfl, hc7, hg7⟩
 have HI7 := hid (HI6.out.step hg7 hc7 HOR.out.1)
 clear hc7 hg7 HSX y1 y2 hz6 HW6 HI6
 have HSX := hid (HS2.out w7 HI7.out.ch (HK.out w7 HI7.out.g).2.2.1.2)
 go_wp2_with fail
 refine HSX.out.mono ?_
 rintro e w8 ⟨rfl, hc8, hg8⟩
 have HI8 := hid (HI7.out.step hg8 hc8 HOR.out.1)
 clear hc8 hg8 HSX HI7 HS2
 have HSX := hid (HDA.out w8 HI8.out.ch)
 go_wp2_with fail
 refine HSX.out.mono ?_
 rintro e w9 ⟨rfl, hc9, hg9⟩
 have HI9 := hid (HI8.out.step hg9 hc9 HOR.out.1)
 clear hc9 hg9 HSX HI8 HDA
 have HPX := hid (HPW.out w9)
 go_wp2_with fail
 refine HPX.out.mono ?_
 rintro e w10 ⟨vp, rfl, hop, hb10⟩
 have HI10 := hid (HI9.out.below hb10)
 obtain ⟨aP, cP, rfl, hlP⟩ := lst_of_owns hop
 rw [HQ.out.1]
 have HRV : Hid (∀ W, w.grownBy W (some rc) -> W.ownsRow W1.heap.size 22 1 (.slice ar M cr) M ((List.range M).map (chr ap o cT st)) -> LstR W.heap.size W ar cr rows) := fun W k1 k2 => by
  obtain ⟨_, _, e1, h⟩ := HRW.out W _ k1 k2
  cases e1
  exact h
 have HMX := hid (HM1.out w10 cr cP ar aP (HRV.out w10 (HK.out w10 HI10.out.g).2.2.2 HI10.out.rw) hlP.row)
 clear hop hb10 hlP HPX HPW HM1 HI9
 go_wp2_with fail
 refine HMX.out.mono ?_
 rintro e w11 ⟨rfl, hs11, hb11⟩
 obtain ⟨g1, hg1⟩ : ∃ g1, g1 = w10.heap.size := ⟨_, rfl⟩
 rw [<- hg1] at hs11 ⊢
 have HI11 := hid ((HI10.out.below hb11).add hs11)
 have y1 := HI11.out.o.frozen 1
 have y2 := HI11.out.o.cell (i := 1) (by omega)
 obtain ⟨W12, hW12⟩ : ∃ W12, W12 = w11.setCell ⟨O, 1, none⟩ (.slice (some ⟨g1, 0, none⟩) st st) := ⟨_, rfl⟩
 have HI12 : Hid (OpI q rc O W1 W12 D1 (.slice ar M cr) (.slice ac N cc) M ((List.range M).map (chr ap o cT st)) C (sx (.slice a5 4 c5) (.slice (some ⟨g1, 0, none⟩) st st) (.slice none 0 0) (.slice none 0 0) (.slice none 0 0) (.slice none 0 0)) [(.slice (some ⟨g1, 0, none⟩) st st, mixed), (.slice a5 4 c5, root)]) := by
  rw [hW12]
  exact HI11.out.set HOR.out.2 HOR.out.1 (sx_set1 HI11.out.o _) (alS (isS _ _ _) (isS _ _ _) (isS _ _ _) (isS _ _ _) (isS _ _ _) (isS _ _ _))
 have HW12 := hid hW12
 have hl12 : Lst W12.heap.size W12 (some ⟨g1, 0, none⟩) st mixed := by
  have k2 : SlR W12 mixed (.slice (some ⟨g1, 0, none⟩) st st) := HI12.out.ls _ (List.mem_cons_self)
  obtain ⟨a', c', e1, e2⟩ := k2.lst
  rw [HQ.out.2.2.2.2.1] at e1
  cases e1
  exact e2
 have HSX := hid (HS3.out W12 st (some ⟨g1, 0, none⟩) HI12.out.ch hl12)
 clear hs11 hb11 hW12 hl12 hg1 HMX HI11 HI10 HS3
 go_wp2_with fail
 rw [<- HW12.out]
 refine HSX.out.mono ?_
 rintro e w13 ⟨rfl, hc13, hg13⟩
 have HI13 := hid (HI12.out.step hg13 hc13 HOR.out.1)
 clear hc13 hg13 HSX y1 y2 HW12 HI12
 have HUX := hid (HU1.out w13 (HK.out w13 HI13.out.g).2.2.1.2)
 have hroom := (HK.out w13 HI13.out.g).2.2.1.2.room
 rw [HAT.out] at hroom
 have hic : (hi : Int) <= (c4 : Int) := by omega
 go_wp2_with fail
 refine HUX.out.mono ?_
 rintro e w14 ⟨vu, rfl, hou, hb14⟩
 have HI14 := hid (HI13.out.below hb14)
 obtain ⟨aU, cU, rfl, hlU⟩ := lst_of_owns hou
 rw [HWL.out.1]
 have HMX := hid (HM2.out w14 cr cU ar aU (HRV.out w14 (HK.out w14 HI14.out.g).2.2.2 HI14.out.rw) hlU.row)
 clear hou hb14 hlU HUX HU1 HM2 HI13 hroom
 go_wp2_with fail
 refine HMX.out.mono ?_
 rintro e w15 ⟨rfl, hs15, hb15⟩
 obtain ⟨g2, hg2⟩ : ∃ g2, g2 = w14.heap.size := ⟨_, rfl⟩
 rw [<- hg2] at hs15 ⊢
 have HI15 := hid ((HI14.out.below hb15).add hs15)
 have y1 := HI15.out.o.frozen 2
 have y2 := HI15.out.o.cell (i := 2) (by omega)
 obtain ⟨W16, hW16⟩ : ∃ W16, W16 = w15.setCell ⟨O, 2, none⟩ (.slice (some ⟨g2, 0, none⟩) st st) := ⟨_, rfl⟩
 have HI16 : Hid (OpI q rc O W1 W16 Dc (.slice ar M cr) (.slice ac N cc) M ((List.range M).map (chr ap o cT st)) C (sx (.slice a5 4 c5) (.slice (some ⟨g1, 0, none⟩) st st) (.slice (some ⟨g2, 0, none⟩) st st) (.slice none 0 0) (.slice none 0 0) (.slice none 0 0)) [(.slice (some ⟨g2, 0, none⟩) st st, point), (.slice (some ⟨g1, 0, none⟩) st st, mixed), (.slice a5 4 c5, root)]) := by
  rw [hW16]
  exact HI15.out.set HOR.out.2 HOR.out.1 (sx_set2 HI15.out.o _) (alS (isS _ _ _) (isS _ _ _) (isS _ _ _) (isS _ _ _) (isS _ _ _) (isS _ _ _))
 have HW16 := hid hW16
 have hl16 : Lst W16.heap.size W16 (some ⟨g2, 0, none⟩) st point := by
  have k2 : SlR W16 point (.slice (some ⟨g2, 0, none⟩) st st) := HI16.out.ls _ (List.mem_cons_self)
  obtain ⟨a', c', e1, e2⟩ := k2.lst
  rw [HQ.out.2.2.2.2.2.1] at e1
  cases e1
  exact e2
 have HSX := hid (HS4.out W16 st (some ⟨g2, 0, none⟩) HI16.out.ch hl16)
 clear hs15 hb15 hW16 hl16 hg2 HMX HI15 HI14 HS4
 go_wp2_with fail
 rw [<- HW16.out]
 refine HSX.out.mono ?_
 rintro e w17 ⟨rfl, hc17, hg17⟩
 have HI17 := hid (HI16.out.step hg17 hc17 HOR.out.1)
 clear hc17 hg17 HSX y1 y2 HW16 HI16
 obtain ⟨z0, z1, z2, z3⟩ := (HK.out w17 HI17.out.g).1
 have HPX := hid (HDW.out w17 HI17.out.ch)
 go_wp2_with fail
 refine HPX.out.mono ?_
 rintro e w18 ⟨vq, rfl, hc18, hoq, hg18⟩
 have hsq := slr_of_owns hoq
 obtain ⟨aq, cq, rfl, hlq⟩ := lst_of_owns hoq
 have HI18 := hid ((HI17.out.step hg18 hc18 HOR.out.1).add hsq)
 have HOX := hid (HOP.out w18 cc cq ac aq (by
  obtain ⟨_, _, e1, h⟩ := HI18.out.cl.lst
  rw [HQ.out.2.1] at e1
  cases e1
  exact h) hlq.row)
 clear hc18 hg18 hoq hsq hlq HPX HDW HI17 HOP z0 z1 z2 z3
 go_wp2_with fail
 refine HOX.out.mono ?_
 rintro e w19 ⟨v3, v4, v5, rfl, hs3, hs4, hs5, hb19⟩
 obtain ⟨a3, c3, e3, _⟩ := hs3.lst
 subst e3
 obtain ⟨a4', c4', e4, _⟩ := hs4.lst
 subst e4
 obtain ⟨a5', c5', e5, _⟩ := hs5.lst
 subst e5
 have HI19 := hid ((HI18.out.below hb19).add hs3)
 have HS45 : Hid (OwnR w18.heap.size w19 (.slice a4' S4.length c4') S4 /\ OwnR w18.heap.size w19 (.slice a5' S5.length c5') S5) := ⟨hs4, hs5⟩
 have y1 := HI19.out.o.frozen 3
 have y2 := HI19.out.o.frozen 4
 have y3 := HI19.out.o.frozen 5
 have y4 := HI19.out.o.cell (i := 3) (by omega)
 have y5 := HI19.out.o.cell (i := 4) (by omega)
 have y6 := HI19.out.o.cell (i := 5) (by omega)
 clear hs3 hs4 hs5 hb19 HOX HI18
 obtain ⟨W20, hW20⟩ : ∃ W20, W20 = ((w19.setCell ⟨O, 3, none⟩ (.slice a3 pl.length c3)).setCell ⟨O, 4, none⟩ (.slice a4' S4.length c4')).setCell ⟨O, 5, none⟩ (.slice a5' S5.length c5') := ⟨_, rfl⟩
 have HI20 : Hid (OpI q rc O W1 W20 D3 (.slice ar M cr) (.slice ac N cc) M ((List.range M).map (chr ap o cT st)) C (sx (.slice a5 4 c5) (.slice (some ⟨g1, 0, none⟩) st st) (.slice (some ⟨g2, 0, none⟩) st st) (.slice a3 pl.length c3) (.slice a4' S4.length c4') (.slice a5' S5.length c5')) [(.slice a3 pl.length c3, pl), (.slice aq pl.length cq, pl), (.slice (some ⟨g2, 0, none⟩) st st, point), (.slice (some ⟨g1, 0, none⟩) st st, mixed), (.slice a5 4 c5, root)] /\ OwnR 0 W20 (.slice a4' S4.length c4') S4 /\ OwnR 0 W20 (.slice a5' S5.length c5') S5) := by
  have f0 := HI19.out.al
  have o0 := HI19.out.o
  have o1 := sx_set3 o0 (.slice a3 pl.length c3)
  have f1 : AlS (sx (.slice a5 4 c5) (.slice (some ⟨g1, 0, none⟩) st st) (.slice (some ⟨g2, 0, none⟩) st st) (.slice a3 pl.length c3) (.slice none 0 0) (.slice none 0 0)) := alS (isS _ _ _) (isS _ _ _) (isS _ _ _) (isS _ _ _) (isS _ _ _) (isS _ _ _)
  have o2 := sx_set4 o1 (.slice a4' S4.length c4')
  have f2 : AlS (sx (.slice a5 4 c5) (.slice (some ⟨g1, 0, none⟩) st st) (.slice (some ⟨g2, 0, none⟩) st st) (.slice a3 pl.length c3) (.slice a4' S4.length c4') (.slice none 0 0)) := alS (isS _ _ _) (isS _ _ _) (isS _ _ _) (isS _ _ _) (isS _ _ _) (isS _ _ _)
  have o3 := sx_set5 o2 (.slice a5' S5.length c5')
  have i1 := HI19.out.set HOR.out.2 HOR.out.1 o1 f1
  have i2 := i1.set HOR.out.2 HOR.out.1 o2 f2
  have i3 := i2.set HOR.out.2 HOR.out.1 o3 (alS (isS _ _ _) (isS _ _ _) (isS _ _ _) (isS _ _ _) (isS _ _ _) (isS _ _ _))
  rw [hW20]
  refine ⟨i3, ?_, ?_⟩
  ·exact (((HS45.out.1.setP o0 f0).setP o1 f1).setP o2 f2).mono (Nat.zero_le _)
  ·exact (((HS45.out.2.setP o0 f0).setP o1 f1).setP o2 f2).mono (Nat.zero_le _)
 have HW20 := hid hW20
 have HUX := hid (HU2.out W20 (HK.out W20 HI20.out.1.g).2.2.1.2)
 have hA2 : (if c4 = hi then a4 else a4.map (fun x => x.add hi)) = AA := HAA.out.symm
 clear hW20 HU2
 go_wp2_with fail
 rw [<- HW20.out]
 clear y1 y2 y3 y4 y5 y6 hA2 HW20 HI19 HS45
 refine HUX.out.mono ?_
 rintro e w21 ⟨vu2, rfl, hou2, hb21⟩
 have HI21 : Hid (OpI q rc O W1 w21 D3 (.slice ar M cr) (.slice ac N cc) M ((List.range M).map (chr ap o cT st)) C (sx (.slice a5 4 c5) (.slice (some ⟨g1, 0, none⟩) st st) (.slice (some ⟨g2, 0, none⟩) st st) (.slice a3 pl.length c3) (.slice a4' S4.length c4') (.slice a5' S5.length c5')) [(.slice a3 pl.length c3, pl), (.slice aq pl.length cq, pl), (.slice (some ⟨g2, 0, none⟩) st st, point), (.slice (some ⟨g1, 0, none⟩) st st, mixed), (.slice a5 4 c5, root)] /\ OwnR 0 w21 (.slice a4' S4.length c4') S4 /\ OwnR 0 w21 (.slice a5' S5.length c5') S5) := ⟨HI20.out.1.below hb21, HI20.out.2.1.keep hb21, HI20.out.2.2.keep hb21⟩
 obtain ⟨aR, cR, rfl, hlR⟩ := lst_of_owns hou2
 rw [HWL.out.2.2]
 have k2 : SlR w21 point (.slice (some ⟨g2, 0, none⟩) st st) := HI21.out.1.ls (.slice (some ⟨g2, 0, none⟩) st st, point) (by simp)
 have hlp : Lst w21.heap.size w21 (some ⟨g2, 0, none⟩) st point := by
  obtain ⟨a', c', e1, e2⟩ := k2.lst
  rw [HQ.out.2.2.2.2.2.1] at e1
  cases e1
  exact e2
 have HDX := hid (HDT.out w21 st cR (some ⟨g2, 0, none⟩) aR hlp.row hlR.row)
 have y1 := HI21.out.1.o.cell (i := 2) (by omega)
 clear hou2 hb21 hlR k2 hlp HUX HI20 HDT
 go_wp2_with fail
 refine HDX.out.mono ?_
 rintro e w22 ⟨rfl, hb22⟩
 have HI22 : Hid (OpI q rc O W1 w22 D3 (.slice ar M cr) (.slice ac N cc) M ((List.range M).map (chr ap o cT st)) C (sx (.slice a5 4 c5) (.slice (some ⟨g1, 0, none⟩) st st) (.slice (some ⟨g2, 0, none⟩) st st) (.slice a3 pl.length c3) (.slice a4' S4.length c4') (.slice a5' S5.length c5')) [(.slice a3 pl.length c3, pl), (.slice aq pl.length cq, pl), (.slice (some ⟨g2, 0, none⟩) st st, point), (.slice (some ⟨g1, 0, none⟩) st st, mixed), (.slice a5 4 c5, root)] /\ OwnR 0 w22 (.slice a4' S4.length c4') S4 /\ OwnR 0 w22 (.slice a5' S5.length c5') S5) := ⟨HI21.out.1.below hb22, HI21.out.2.1.keep hb22, HI21.out.2.2.keep hb22⟩
 clear y1 hb22 HDX HI21
 have o0 := HI22.out.1.o
 have x0 : w22.cell? ⟨O, 0, none⟩ = some (.slice a5 4 c5) := o0.cell (i := 0) (by omega)
 have x1 : w22.cell? ⟨O, 1, none⟩ = some (.slice (some ⟨g1, 0, none⟩) st st) := o0.cell (i := 1) (by omega)
 have x2 : w22.cell? ⟨O, 2, none⟩ = some (.slice (some ⟨g2, 0, none⟩) st st) := o0.cell (i := 2) (by omega)
 have x3 : w22.cell? ⟨O, 3, none⟩ = some (.slice a3 pl.length c3) := o0.cell (i := 3) (by omega)
 have x4 : w22.cell? ⟨O, 4, none⟩ = some (.slice a4' S4.length c4') := o0.cell (i := 4) (by omega)
 have x5 : w22.cell? ⟨O, 5, none⟩ = some (.slice a5' S5.length c5') := o0.cell (i := 5) (by omega)
 have rR := (HK.out w22 HI22.out.1.g).2.1
 have hRG : R = G + 1 := by rw [HRE.out, HGE.out]
 rw [hRG] at rR
 have f0 := rR.frozen 0
 have f1 := rR.frozen 1
 have f2 := rR.frozen 2
 have f3 := rR.frozen 3
 have f4 := rR.frozen 4
 have f5 := rR.frozen 5
 have t0 : w22.cell? ⟨G + 1, 0, none⟩ = some (.slice none 0 0) := rR.cell (i := 0) (by omega)
 have t1 : w22.cell? ⟨G + 1, 1, none⟩ = some (.slice none 0 0) := rR.cell (i := 1) (by omega)
 have t2 : w22.cell? ⟨G + 1, 2, none⟩ = some (.slice none 0 0) := rR.cell (i := 2) (by omega)
 have t3 : w22.cell? ⟨G + 1, 3, none⟩ = some (.slice none 0 0) := rR.cell (i := 3) (by omega)
 have t4 : w22.cell? ⟨G + 1, 4, none⟩ = some (.slice none 0 0) := rR.cell (i := 4) (by omega)
 have t5 : w22.cell? ⟨G + 1, 5, none⟩ = some (.slice none 0 0) := rR.cell (i := 5) (by omega)
 have HRR := hid rR
 clear o0 rR hRG
 obtain ⟨WE, hWE⟩ : ∃ WE, WE = (((((((((((w22.setCell ⟨G + 1, 0, none⟩ (.slice a5 4 c5))).setCell ⟨G + 1, 1, none⟩ (.slice (some ⟨g1, 0, none⟩) st st))).setCell ⟨G + 1, 2, none⟩ (.slice (some ⟨g2, 0, none⟩) st st))).setCell ⟨G + 1, 3, none⟩ (.slice a3 pl.length c3))).setCell ⟨G + 1, 4, none⟩ (.slice a4' S4.length c4'))).setCell ⟨G + 1, 5, none⟩ (.slice a5' S5.length c5')) := ⟨_, rfl⟩
 have HE : Hid (OpE q rc (G + 1) w WE D3 (sx (.slice a5 4 c5) (.slice (some ⟨g1, 0, none⟩) st st) (.slice (some ⟨g2, 0, none⟩) st st) (.slice a3 pl.length c3) (.slice a4' S4.length c4') (.slice a5' S5.length c5')) [(.slice a5 4 c5, root), (.slice (some ⟨g1, 0, none⟩) st st, mixed), (.slice (some ⟨g2, 0, none⟩) st st, point), (.slice a3 pl.length c3, pl)] [(.slice a4' S4.length c4', S4), (.slice a5' S5.length c5', S5)]) := by
  have hRw : w.heap.size <= G + 1 := by have := HGE.out; omega
  have hRc : G + 1 ≠ rc := by have := HGE.out; have := HNE.out.2.2; omega
  have e0 : OpE q rc (G + 1) w w22 D3 (sx (.slice none 0 0) (.slice none 0 0) (.slice none 0 0) (.slice none 0 0) (.slice none 0 0) (.slice none 0 0)) [(.slice a5 4 c5, root), (.slice (some ⟨g1, 0, none⟩) st st, mixed), (.slice (some ⟨g2, 0, none⟩) st st, point), (.slice a3 pl.length c3, pl)] [(.slice a4' S4.length c4', S4), (.slice a5' S5.length c5', S5)] := ⟨(HK.out w22 HI22.out.1.g).2.2.2, HI22.out.1.ch, HRR.out, alS (isS _ _ _) (isS _ _ _) (isS _ _ _) (isS _ _ _) (isS _ _ _) (isS _ _ _), fun p hp => HI22.out.1.ls p (by simp only [List.mem_cons, List.not_mem_nil, or_false] at hp ⊢; rcases hp with h | h | h | h <;> simp [h]), fun p hp => by
   simp only [List.mem_cons, List.not_mem_nil, or_false] at hp
   rcases hp with rfl | rfl
   ·exact HI22.out.2.1
   ·exact HI22.out.2.2⟩
  have e1 := e0.set hRw hRc (sx_set0 e0.o (.slice a5 4 c5)) (alS (isS _ _ _) (isS _ _ _) (isS _ _ _) (isS _ _ _) (isS _ _ _) (isS _ _ _))
  have e2 := e1.set hRw hRc (sx_set1 e1.o (.slice (some ⟨g1, 0, none⟩) st st)) (alS (isS _ _ _) (isS _ _ _) (isS _ _ _) (isS _ _ _) (isS _ _ _) (isS _ _ _))
  have e3 := e2.set hRw hRc (sx_set2 e2.o (.slice (some ⟨g2, 0, none⟩) st st)) (alS (isS _ _ _) (isS _ _ _) (isS _ _ _) (isS _ _ _) (isS _ _ _) (isS _ _ _))
  have e4 := e3.set hRw hRc (sx_set3 e3.o (.slice a3 pl.length c3)) (alS (isS _ _ _) (isS _ _ _) (isS _ _ _) (isS _ _ _) (isS _ _ _) (isS _ _ _))
  have e5 := e4.set hRw hRc (sx_set4 e4.o (.slice a4' S4.length c4')) (alS (isS _ _ _) (isS _ _ _) (isS _ _ _) (isS _ _ _) (isS _ _ _) (isS _ _ _))
  have e6 := e5.set hRw hRc (sx_set5 e5.o (.slice a5' S5.length c5')) (alS (isS _ _ _) (isS _ _ _) (isS _ _ _) (isS _ _ _) (isS _ _ _) (isS _ _ _))
  rw [hWE]
  exact e6
 have HWE := hid hWE
 clear hWE HRR HI22 HK
 go_wp2_with fail
 rw [<- HWE.out]
 clear x0 x1 x2 x3 x4 x5 f0 f1 f2 f3 f4 f5 t0 t1 t2 t3 t4 t5 HWE
 refine bodyPost_ret (results_ct rfl _ _ (G + 1) 33 _ (0, 0) _ rfl (sx_arr HE.out.o) Tryz.underlying33 rfl (by kernel_rfl)) rfl ?_
 exact ⟨_, _, _, _, _, _, rfl, ⟨HE.out.ls (_, root) (by simp), HE.out.ls (_, mixed) (by simp), HE.out.ls (_, point) (by simp), HE.out.ls (_, pl) (by simp), HE.out.os (_, S4) (by simp), HE.out.os (_, S5) (by simp)⟩, HE.out.ch, HE.out.g⟩
end Go.Proofs.YtlhjifpomchnfaaGreatDoor
