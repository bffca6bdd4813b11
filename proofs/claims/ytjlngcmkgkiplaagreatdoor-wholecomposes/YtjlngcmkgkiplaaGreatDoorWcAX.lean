
import Derived.Test.YtjlngcmkgkiplaaGreatDoorWcAP
import Derived.Test.YtjlngcmkgkiplaaGreatDoorDoms
import Derived.Test.YtjlngcmkgkiplaaGreatDoorWcAV
import Derived.Test.YtjlngcmkgkiplaaGreatDoorWcAQ
import Derived.Test.YtjlngcmkgkiplaaGreatDoorWcAU
import Derived.Test.YtjlngcmkgkiplaaGreatDoorWcAW
import Derived.Test.YtjlngcmkgkiplaaGreatDoorWcAK
set_option maxRecDepth 1000000
set_option maxHeartbeats 8000000
namespace Go.Proofs.YtjlngcmkgkiplaaGreatDoor
open Go.RowKit Go.Maps
theorem DomAt.drewN {w : World} {d b : Nat} {n r s : Int} (h : DomAt w d b n r s) (m : Nat) : DomAt (w.drewN m) d b n r s := ⟨h.f, h.n, h.r, h.s⟩
theorem ClmAt.drewN {w : World} {c b s H D q n g rH rD : Nat} {size out : Int} {aL : Option Addr} {nL cL : Nat} (h : ClmAt w c b s H D q n g rH rD size out aL nL cL) (m : Nat) : ClmAt (w.drewN m) c b s H D q n g rH rD size out aL nL cL :=
 ⟨h.f, h.s, h.sz, h.ls, h.out, h.th, h.wd, h.p, h.dH.drewN m, h.dD.drewN m⟩
theorem ClmAt.far {w : World} {c b s H D q n g rH rD : Nat} {size out : Int} {aL : Option Addr} {nL cL n0 : Nat} (h : ClmAt w c b s H D q n g rH rD size out aL nL cL) (hc : c < n0) (hb : b < n0 /\ H < n0 /\ D < n0) (k : Nat) (v : Value) : ClmAt (w.setCell ⟨n0, k, none⟩ v).drew c b s H D q n g rH rD size out aL nL cL := by
 have e : Below n0 w (w.setCell ⟨n0, k, none⟩ v).drew := ((Below.refl n0 w).setCell (p := ⟨n0, k, none⟩) (Nat.le_refl _) v).drew
 exact h.below e hc hb.1 hb.2.1 hb.2.2
theorem ahead_any (c b s H D q n g rH rD : Nat) (size out : Int) (aL : Option Addr) (nL cL i : Nat) (w : World) (hC : ClmAt w c b s H D q n g rH rD size out aL nL cL) (hn0 : 0 < n) (hn : n <= 512) (hi : i < 8 * n) :
  Calls Tryz.prog 45 #[.pointer (some ⟨c, 0, none⟩), .int .i64 (i : Int)] w fun e w' => e = .returned (.int .i64 (((i + 8) % (8 * n) : Nat) : Int)) /\ w' = w := by
 have kwd := hC.wd
 have HSZ := hid (size_any D b ((8 * n : Nat) : Int) rD g w hC.dD)
 have w8 : IntKind.i64.wrap ((i : Int) + 8) = (i : Int) + 8 := by rw [IntKind.wrap_i64]; omega
 have hz : (((8 * n : Nat) : Int) == 0) = false := by rw [beq_eq_false_iff_ne]; omega
 have em : ((i : Int) + 8).tmod ((8 * n : Nat) : Int) = (((i + 8) % (8 * n) : Nat) : Int) := by
  rw [Int.tmod_eq_emod_of_nonneg (by omega), show (i : Int) + 8 = ((i + 8 : Nat) : Int) from by omega, <- Int.natCast_emod]
 clear hC
 generalize (i + 8) % (8 * n) = r at *
 generalize 8 * n = N at *
 go_enter Tryz.func45, Tryz.ntmps45
 go_wp2_with fail
 refine HSZ.out.mono ?_
 rintro e w1 ⟨rfl, hw1⟩
 have hw1' := hw1.symm
 subst hw1'
 clear hw1
 go_wp2_with fail
 go_ret
 exact ⟨by first | rfl | simp, rfl⟩
def ivz (q n : Nat) (e t : Int) (k : Nat) : Int :=
 if k = 0 then (invn q ((((powz q t (n : Int) : Nat) : Int) - 1) % (q : Int)) : Int)
 else if k = 1 then (invn q ((((powz q t (n : Int) : Nat) : Int) - 1) % (q : Int)) : Int) * ((t - e) % (q : Int)) % (q : Int)
 else if k = 2 then (invn q ((t - 1) % (q : Int)) : Int) else (invn q ((t - e) % (q : Int)) : Int)
theorem inverses_any (c b s H D q n k g rH rD : Nat) (size out t : Int) (aL : Option Addr) (nL cL : Nat) (w : World) (hpr : Num.Prime q) (h3 : 3 <= q) (h4 : q <= 2147483647) (hC : ClmAt w c b s H D q n g rH rD size out aL nL cL) (hk : k <= 16) (hnk : n = 2 ^ k) (hrH : rH < q) (ht : I64 t) :
  Calls Tryz.prog 46 #[.pointer (some ⟨c, 0, none⟩), .int .i64 t] w fun e w' => e = .returned (.agg (an 4 (ivz q n (Dom.pt q 1 rH (n - 1)) t))) /\ Below w.heap.size w w' := by
 have hmx : Tryz.prog.follows .mixedOrders = true := by kernel_rfl
 have em : ∀ a : Int, I64 (a % (q : Int)) := fun a => by have := emod_bounds a q h3; unfold I64; omega
 have iv : ∀ a : Int, I64 ((invn q a : Nat) : Int) := fun a => by have := invn_lt q a h3; unfold I64; omega
 obtain ⟨c0, c1⟩ := hC.lt
 have hpos : 1 <= n := by rw [hnk]; exact Nat.pow_pos (by decide)
 have hle : n <= 65536 := by rw [hnk]; exact two_pow_le hk
 obtain ⟨W0, hW0⟩ := exE (w.alloc (.cells #[.int .i64 0, .int .i64 0, .int .i64 0, .int .i64 0] 91))
 have hb0 := blA hW0
 have hA0 : ArrI W0 w.heap.size 91 4 (fll (ivz q n (Dom.pt q 1 rH (n - 1)) t) (fun _ => 0) 0) := by
  rw [hW0]
  exact (ArrI.new w 4 91 (fun _ => 0)).congr (fun j _ => by simp [fll])
 have hC0 := hC.below hb0 c0 c1.1 c1.2.1 c1.2.2
 have kf := hC0.f
 have kth := hC0.th
 obtain ⟨e, he⟩ := exE (Dom.pt q 1 (rH : Int) (n - 1))
 have hem : (((-1 : Int) % ((2 ^ k : Nat) : Int)).toNat) = n - 1 := by
  rw [<- hnk]
  have h1 : (-1 : Int) % (n : Int) = (n : Int) - 1 := by
   rw [<- Int.add_emod_right, show (-1 : Int) + (n : Int) = (n : Int) - 1 by omega]
   exact Int.emod_eq_of_lt (by omega) (by omega)
  rw [h1]; omega
 have heb : I64 e := by rw [he]; have := pt_bd h3 1 (rH : Int) (n - 1); unfold I64; omega
 have HS1 : Hid (∀ W : World, W.cell? ⟨b, 0, none⟩ = some (.int .i64 q) -> Calls Tryz.prog 52 #[.pointer (some ⟨b, 0, none⟩), .int .i64 t, .int .i64 1] W fun e w' => e = .returned (.int .i64 ((t - 1) % (q : Int))) /\ w' = W) := fun W h => sub_any q b t 1 W h3 h4 h ht.1 ht.2 (by decide) (by decide)
 have HS2 : Hid (∀ W : World, W.cell? ⟨b, 0, none⟩ = some (.int .i64 q) -> Calls Tryz.prog 52 #[.pointer (some ⟨b, 0, none⟩), .int .i64 t, .int .i64 e] W fun e' w' => e' = .returned (.int .i64 ((t - e) % (q : Int))) /\ w' = W) := fun W h => sub_any q b t e W h3 h4 h ht.1 ht.2 heb.1 heb.2
 have HPT : Hid (∀ m, Calls Tryz.prog 47 #[.pointer (some ⟨H, 0, none⟩), .int .i64 (-1)] (W0.drewN m) fun e' w' => e' = .returned (.int .i64 e) /\ ∃ j, w' = (W0.drewN m).drewN j) := fun m => by
  have h0 := point_any q b H k (rH : Int) 1 (-1) (W0.drewN m) hpr h3 h4 hC0.p (by rw [<- hnk]; exact hC0.dH.drewN m) hk (by omega) (by omega) (by decide) (by omega)
  rw [hem, <- he] at h0
  exact h0.mono fun e' w' ⟨h1, h2⟩ => ⟨h1, 1, h2⟩
 have HPW : Hid (∀ W : World, W.cell? ⟨b, 0, none⟩ = some (.int .i64 q) -> Calls Tryz.prog 89 #[.pointer (some ⟨b, 0, none⟩), .int .i64 t, .int .i64 (n : Int)] W fun e w' => e = .returned (.int .i64 ((powz q t (n : Int) : Nat) : Int)) /\ w' = W) := fun W h => pow_any q b t n W h3 h4 h ht.1 ht.2 (by omega) (by omega)
 have hpwb : I64 ((powz q t (n : Int) : Nat) : Int) := by rw [powz_int q n t hpr h3 (by omega)]; exact em _
 have HS3 : Hid (∀ W : World, W.cell? ⟨b, 0, none⟩ = some (.int .i64 q) -> Calls Tryz.prog 52 #[.pointer (some ⟨b, 0, none⟩), .int .i64 ((powz q t (n : Int) : Nat) : Int), .int .i64 1] W fun e w' => e = .returned (.int .i64 ((((powz q t (n : Int) : Nat) : Int) - 1) % (q : Int))) /\ w' = W) := fun W h => sub_any q b _ 1 W h3 h4 h hpwb.1 hpwb.2 (by decide) (by decide)
 have HIV : Hid (∀ (x : Int), I64 x -> ∀ W : World, W.cell? ⟨b, 0, none⟩ = some (.int .i64 q) -> Calls Tryz.prog 85 #[.pointer (some ⟨b, 0, none⟩), .int .i64 x] W fun e w' => e = .returned (.int .i64 ((invn q x : Nat) : Int)) /\ w' = W) := fun x hx W h => by have h0 := inv_any q b x W h3 h4 h hx.1 hx.2; rw [inv_ref q x hpr h3] at h0; exact h0
 have HI0 := hid (HIV.out _ (em (((powz q t (n : Int) : Nat) : Int) - 1)))
 have HI2 := hid (HIV.out _ (em (t - 1)))
 have HI3 := hid (HIV.out _ (em (t - e)))
 have HML := hid (fun W h => mul_any q b (((invn q ((((powz q t (n : Int) : Nat) : Int) - 1) % (q : Int)) : Nat) : Int)) (((t - e) % (q : Int))) W h3 h4 h (iv _).1 (iv _).2 (em _).1 (em _).2)
 rw [<- he] at hA0 ⊢
 have HZ : Hid (ivz q n e t 0 = ((invn q ((((powz q t (n : Int) : Nat) : Int) - 1) % (q : Int)) : Nat) : Int) /\ ivz q n e t 1 = ((invn q ((((powz q t (n : Int) : Nat) : Int) - 1) % (q : Int)) : Nat) : Int) * ((t - e) % (q : Int)) % (q : Int) /\ ivz q n e t 2 = ((invn q ((t - 1) % (q : Int)) : Nat) : Int) /\ ivz q n e t 3 = ((invn q ((t - e) % (q : Int)) : Nat) : Int)) := ⟨rfl, rfl, rfl, rfl⟩
 have HSZ := hid (fun W (h : DomAt W H b (n : Int) rH 1) => size_any H b (n : Int) rH 1 W h)
 have HB0 := hid hb0
 have HA0 := hid hA0
 have HC0 := hid hC0
 have QP := qpL hC0.p
 obtain ⟨G, hG⟩ := exE (ivz q n e t)
 rw [<- hG] at HZ HA0 ⊢
 clear hG hA0 hC0 hb0 hC em iv hpwb heb hem he HIV hnk
 generalize ((invn q ((((powz q t (n : Int) : Nat) : Int) - 1) % (q : Int)) : Nat) : Int) = i0 at *
 generalize ((invn q ((t - 1) % (q : Int)) : Nat) : Int) = i2 at *
 generalize ((invn q ((t - e) % (q : Int)) : Nat) : Int) = i3 at *
 generalize i0 * ((t - e) % (q : Int)) % (q : Int) = i1 at *
 generalize (((powz q t (n : Int) : Nat) : Int) - 1) % (q : Int) = s3 at *
 generalize ((powz q t (n : Int) : Nat) : Int) = pw at *
 generalize (t - e) % (q : Int) = s2 at *
 generalize (t - 1) % (q : Int) = s1 at *
 go_enter Tryz.func46, Tryz.ntmps46
 go_wp2_with fail
 rw [<- hW0]
 clear hW0
 go_quiet (first
  | (go_at_call 52; first | with_reducible exact Calls.quiet_of_same (HS1.out _ (QP.out _)) | with_reducible exact Calls.quiet_of_same (HS2.out _ (QP.out _)))
  | (go_at_call 47; with_reducible exact Calls.quiet_of (HPT.out _)))
 obtain ⟨W1, hW1⟩ := exE (W0.drewN nq)
 have HB1 : Hid (Below w.heap.size w W1) := by unfold Hid; rw [hW1]; exact below_drewN HB0.out nq
 have HA1 : Hid (ArrI W1 w.heap.size 91 4 (fll G (fun _ => 0) 0)) := by unfold Hid; rw [hW1]; exact HA0.out
 have HC1 : Hid (ClmAt W1 c b s H D q n g rH rD size out aL nL cL) := by unfold Hid; rw [hW1]; exact HC0.out.drewN nq
 rw [<- hW1]
 clear hW1 kf kth
 have kf := HC1.out.f
 have kth := HC1.out.th
 have y0 := HA1.out.frozen 0
 have z0 := HA1.out.cell (show 0 < 4 by decide)
 have HSZ1 := hid (HSZ.out W1.drew (HC1.out.dH.drewN 1))
 have HPW1 := hid (HPW.out W1.drew HC1.out.p)
 have HS31 := hid (HS3.out W1.drew HC1.out.p)
 have HI01 := hid (HI0.out W1.drew HC1.out.p)
 go_wp2_with fail
 go_still_tail 22, hmx
 still_call HSZ1.out
 still_call HPW1.out
 still_call HS31.out
 still_call HI01.out
 still_step
 refine wpStill_nil ?_
 have HA2 : Hid (ArrI (W1.setCell ⟨w.heap.size, 0, none⟩ (.int .i64 i0)).drew w.heap.size 91 4 (fll G (fun _ => 0) 1)) := by
  have h0 := HA1.out.next (k := 0)
  rw [HZ.out.1] at h0
  exact h0
 have HC2 : Hid (ClmAt (W1.setCell ⟨w.heap.size, 0, none⟩ (.int .i64 i0)).drew c b s H D q n g rH rD size out aL nL cL) := HC1.out.far c0 c1 _ _
 have HB2 : Hid (Below w.heap.size w (W1.setCell ⟨w.heap.size, 0, none⟩ (.int .i64 i0)).drew) := (HB1.out.setCell (p := ⟨w.heap.size, 0, none⟩) (Nat.le_refl _) _).drew
 go_wp2_with fail
 clear kf kth y0 z0 HSZ1 HPW1 HS31 HI01
 generalize (W1.setCell ⟨w.heap.size, 0, none⟩ (.int .i64 i0)).drew = W2 at *
 have kf := HC2.out.f
 have x0 : W2.cell? ⟨w.heap.size, 0, none⟩ = some (.int .i64 i0) := by
  have h0 := HA2.out.cell (show 0 < 4 by decide)
  rw [show fll G (fun _ => 0) 1 0 = G 0 from by simp [fll], HZ.out.1] at h0
  exact h0
 have y1 := HA2.out.frozen 1
 have z1 := HA2.out.cell (show 1 < 4 by decide)
 have HML1 := hid (HML.out W2.drew HC2.out.p)
 have HA3 : Hid (ArrI (W2.setCell ⟨w.heap.size, 1, none⟩ (.int .i64 i1)).drew w.heap.size 91 4 (fll G (fun _ => 0) 2)) := by
  have h0 := HA2.out.next (k := 1)
  rw [HZ.out.2.1] at h0
  exact h0
 have HC3 : Hid (ClmAt (W2.setCell ⟨w.heap.size, 1, none⟩ (.int .i64 i1)).drew c b s H D q n g rH rD size out aL nL cL) := HC2.out.far c0 c1 _ _
 have HB3 : Hid (Below w.heap.size w (W2.setCell ⟨w.heap.size, 1, none⟩ (.int .i64 i1)).drew) := (HB2.out.setCell (p := ⟨w.heap.size, 1, none⟩) (Nat.le_refl _) _).drew
 clear HA1 HC1 HB1 HA2 HC2
 go_wp2_with fail
 go_still_tail 9, hmx
 still_call HML1.out
 still_step
 refine wpStill_nil ?_
 go_wp2_with fail
 clear kf x0 y1 z1 HML1
 generalize (W2.setCell ⟨w.heap.size, 1, none⟩ (.int .i64 i1)).drew = W3 at *
 have kf := HC3.out.f
 have y2 := HA3.out.frozen 2
 have z2 := HA3.out.cell (show 2 < 4 by decide)
 have HA4 : Hid (ArrI (W3.setCell ⟨w.heap.size, 2, none⟩ (.int .i64 i2)) w.heap.size 91 4 (fll G (fun _ => 0) 3)) := by
  have h0 := HA3.out.next (k := 2)
  rw [HZ.out.2.2.1] at h0
  exact h0
 have HC4 : Hid (ClmAt (W3.setCell ⟨w.heap.size, 2, none⟩ (.int .i64 i2)) c b s H D q n g rH rD size out aL nL cL) := by
  have e : Below w.heap.size W3 (W3.setCell ⟨w.heap.size, 2, none⟩ (.int .i64 i2)) := (Below.refl _ W3).setCell (p := ⟨w.heap.size, 2, none⟩) (Nat.le_refl _) _
  exact HC3.out.below e c0 c1.1 c1.2.1 c1.2.2
 have HB4 : Hid (Below w.heap.size w (W3.setCell ⟨w.heap.size, 2, none⟩ (.int .i64 i2))) := HB3.out.setCell (p := ⟨w.heap.size, 2, none⟩) (Nat.le_refl _) _
 go_wp2_with fail
 refine (HI2.out W3 HC3.out.p).mono ?_
 rintro e' w4 ⟨rfl, hw4⟩
 have hw4' := hw4.symm
 subst hw4'
 clear hw4 HA3 HB3
 go_wp2_with fail
 clear kf y2 z2 HC3
 generalize W3.setCell ⟨w.heap.size, 2, none⟩ (.int .i64 i2) = W4 at *
 have kf := HC4.out.f
 have y3 := HA4.out.frozen 3
 have z3 := HA4.out.cell (show 3 < 4 by decide)
 have HA5 : Hid (ArrI (W4.setCell ⟨w.heap.size, 3, none⟩ (.int .i64 i3)) w.heap.size 91 4 G) := by
  have h0 := HA4.out.next (k := 3)
  rw [HZ.out.2.2.2] at h0
  exact h0.congr (fun j hj => fll_all hj)
 have HB5 : Hid (Below w.heap.size w (W4.setCell ⟨w.heap.size, 3, none⟩ (.int .i64 i3))) := HB4.out.setCell (p := ⟨w.heap.size, 3, none⟩) (Nat.le_refl _) _
 go_wp2_with fail
 refine (HI3.out W4 HC4.out.p).mono ?_
 rintro e' w5 ⟨rfl, hw5⟩
 have hw5' := hw5.symm
 subst hw5'
 clear hw5
 go_wp2_with (first
  | (refine wpList_load_an rfl 91 _ rfl _ rfl _ _ _ _ _ HA5.out Tryz.underlying91 (by kernel_rfl) ?_)
  | (refine wpList_store_an rfl 91 _ _ rfl _ _ _ _ rfl rfl _ HA5.out (by kernel_rfl) ?_))
 refine bodyPost_ret (results_an rfl _ _ w.heap.size 91 4 _ _ G rfl (HA5.out.setRow _) Tryz.underlying91 (by kernel_rfl)) rfl ?_
 exact ⟨rfl, below_setRow HB5.out (Nat.le_refl _) _⟩
def pasz (q : Nat) (r : List Int) (x y z z' : Int) : Int := (z' * prd q x y (rw4 r 12 16) 4 % (q : Int) - z * prd q x y (rw4 r 3 7) 4 % (q : Int)) % (q : Int)
theorem passes_any (c b s H D q n g rH rD : Nat) (size out : Int) (aL : Option Addr) (nL cL : Nat) (r : List Int) (ar : Option Addr) (cr : Nat) (v' : Value) (z z' x y a gg : Int) (w : World) (h3 : 3 <= q) (h4 : q <= 2147483647) (hC : ClmAt w c b s H D q n g rH rD size out aL nL cL) (hr : RowB w.heap.size w ar r) (hF : Fits r) (h20 : 20 <= r.length) (hrl : r.length <= 17592186044416) (hx : I64 x) (hy : I64 y) (hz : I64 z) (hz' : I64 z') (hv' : ∃ a' n' c', v' = .slice a' n' c') :
  Calls Tryz.prog 51 #[.pointer (some ⟨c, 0, none⟩), .agg #[.slice ar r.length cr, .int .i64 z], .agg #[v', .int .i64 z'], .agg #[.int .i64 x, .int .i64 y, .int .i64 a, .int .i64 gg]] w fun e w' => e = .returned (.int .i64 (pasz q r x y z z')) /\ Below w.heap.size w w' := by
 obtain ⟨a', n', c', rfl⟩ := hv'
 have hmx : Tryz.prog.follows .mixedOrders = true := by kernel_rfl
 obtain ⟨c0, c1⟩ := hC.lt
 obtain ⟨W0, hW0⟩ := exE (((w.alloc (.cells #[.slice ar r.length cr, .int .i64 z] 90)).alloc (.cells #[.slice a' n' c', .int .i64 z'] 90)).alloc (.cells #[.int .i64 x, .int .i64 y, .int .i64 a, .int .i64 gg] 62))
 obtain ⟨V1, hV1⟩ := exE (w.alloc (.cells #[.slice ar r.length cr, .int .i64 z] 90))
 obtain ⟨V2, hV2⟩ := exE (V1.alloc (.cells #[.slice a' n' c', .int .i64 z'] 90))
 have hb1 := blA hV1
 have hb2 := blA hV2
 have hW0' : W0 = V2.alloc (.cells #[.int .i64 x, .int .i64 y, .int .i64 a, .int .i64 gg] 62) := by rw [hW0, hV2, hV1]
 have hb3 : Below V2.heap.size V2 W0 := by rw [hW0']; exact (Below.refl _ _).alloc (Nat.le_refl _) _
 have s1 : V1.heap.size = w.heap.size + 1 := by rw [hV1]; simp
 have s2 : V2.heap.size = w.heap.size + 2 := by rw [hV2]; simp; omega
 have hA : W0.heap[w.heap.size]? = some (.cells #[.slice ar r.length cr, .int .i64 z] 90 (0, 0)) := (hb3.block _ (by omega)).trans ((hb2.block _ (by omega)).trans (by rw [hV1]; exact heap_alloc_new w _))
 have hB : W0.heap[w.heap.size + 1]? = some (.cells #[.slice a' n' c', .int .i64 z'] 90 (0, 0)) := (hb3.block _ (by omega)).trans (by rw [hV2, <- s1]; exact heap_alloc_new V1 _)
 have hN : W0.heap[w.heap.size + 1 + 1]? = some (.cells #[.int .i64 x, .int .i64 y, .int .i64 a, .int .i64 gg] 62 (0, 0)) := by rw [hW0', show w.heap.size + 1 + 1 = V2.heap.size by omega]; exact heap_alloc_new V2 _
 have hb0 : Below w.heap.size w W0 := hb1.trans ((hb2.mono (by omega)).trans (hb3.mono (by omega)))
 have hC0 := hC.below hb0 c0 c1.1 c1.2.1 c1.2.2
 obtain ⟨A, hAe⟩ := exE (w.heap.size)
 obtain ⟨B, hBe⟩ := exE (w.heap.size + 1)
 obtain ⟨M, hMe⟩ := exE (w.heap.size + 1 + 1)
 rw [<- hAe] at hA
 rw [<- hBe] at hB
 rw [<- hMe] at hN
 have hsz0 : w.heap.size + 3 = W0.heap.size := by rw [hW0']; simp; omega
 have HFA := hid (fun (W : World) (hW : Below w.heap.size w W) => factors_any q b cr ar r x y W h3 h4 ((hW.cell (p := ⟨b, 0, none⟩) c1.1).trans hC.p) ((hr.below hW).mono hW.size) hF hrl h20 hx.1 hx.2 hy.1 hy.2)
 obtain ⟨met, hmet⟩ := exE (prd q x y (rw4 r 3 7) 4)
 obtain ⟨srt, hsrt⟩ := exE (prd q x y (rw4 r 12 16) 4)
 have em : ∀ a : Int, I64 (a % (q : Int)) := fun a => by have := emod_bounds a q h3; unfold I64; omega
 have hmb : I64 met := by rw [hmet]; exact em _
 have hsb : I64 srt := by rw [hsrt]; exact em _
 have HM1 := hid (fun W (h : W.cell? ⟨b, 0, none⟩ = some (.int .i64 q)) => mul_any q b z' srt W h3 h4 h hz'.1 hz'.2 hsb.1 hsb.2)
 have HM2 := hid (fun W (h : W.cell? ⟨b, 0, none⟩ = some (.int .i64 q)) => mul_any q b z met W h3 h4 h hz.1 hz.2 hmb.1 hmb.2)
 have HSB := hid (fun W (h : W.cell? ⟨b, 0, none⟩ = some (.int .i64 q)) => sub_any q b (z' * srt % (q : Int)) (z * met % (q : Int)) W h3 h4 h (em _).1 (em _).2 (em _).1 (em _).2)
 have HE : Hid (pasz q r x y z z' = (z' * srt % (q : Int) - z * met % (q : Int)) % (q : Int)) := by unfold Hid pasz; rw [hmet, hsrt]
 rw [<- hmet, <- hsrt] at HFA
 generalize pasz q r x y z z' = R at *
 generalize (z' * srt % (q : Int) - z * met % (q : Int)) % (q : Int) = R2 at *
 generalize z' * srt % (q : Int) = t1 at *
 generalize z * met % (q : Int) = t2 at *
 have HB0 := hid hb0
 have HC0 := hid hC0
 have HA := hid hA
 have HBB := hid hB
 have HNN := hid hN
 have kf := hC0.f
 have a0 := clA 0 hA rfl
 have n0 := clA 0 hN rfl
 have n1 := clA 1 hN rfl
 obtain ⟨rl, hrl'⟩ : ∃ rl, rl = r.length := ⟨_, rfl⟩
 rw [<- hrl'] at HFA a0 hW0 hrl ⊢
 have HKS : Hid (∀ W, Below W0.heap.size W0 W -> W.cell? ⟨c, 0, none⟩ = some (.pointer (some ⟨b, 0, none⟩)) /\ W.cell? ⟨A, 0, none⟩ = some (.slice ar rl cr) /\ W.cell? ⟨M, 0, none⟩ = some (.int .i64 x) /\ W.cell? ⟨M, 1, none⟩ = some (.int .i64 y)) := fun W hW =>
  ⟨(hW.cell (p := ⟨c, 0, none⟩) (show c < W0.heap.size by omega)).trans kf, (hW.cell (p := ⟨A, 0, none⟩) (show A < W0.heap.size by omega)).trans a0, (hW.cell (p := ⟨M, 0, none⟩) (show M < W0.heap.size by omega)).trans n0, (hW.cell (p := ⟨M, 1, none⟩) (show M < W0.heap.size by omega)).trans n1⟩
 have HLT : Hid (A < W0.heap.size /\ B < W0.heap.size) := ⟨by omega, by omega⟩
 have HSM : Hid (c < W0.heap.size /\ b < W0.heap.size /\ H < W0.heap.size /\ D < W0.heap.size) := ⟨by omega, by omega, by omega, by omega⟩
 clear hb1 hb2 hb3 hA hB hN hC0 hb0 hmet hsrt em hmb hsb hC hr hF h20 hW0' hV1 hV2 s1 s2 V1 V2 hrl' hsz0
 go_enter Tryz.func51, Tryz.ntmps51
 go_wp2_with fail
 rw [<- hW0, <- hMe, <- hBe, <- hAe]
 clear hW0 hAe hBe hMe
 go_wp2_with fail
 refine wp_region_held_drew (S := fun W => W.cell? ⟨c, 0, none⟩ = some (.pointer (some ⟨b, 0, none⟩)) /\ W.cell? ⟨A, 0, none⟩ = some (.slice ar rl cr) /\ W.cell? ⟨M, 0, none⟩ = some (.int .i64 x) /\ W.cell? ⟨M, 1, none⟩ = some (.int .i64 y)) (by kernel_rfl) ⟨kf, a0, n0, n1⟩ (fun hHeld => ?_)
 refine tkU 0 (.pointer (some ⟨c, 0, none⟩)) rfl (fun W hC => by go_simp) hHeld ?_
 simp only [Act.put, aS0, aS1, aS2]
 refine tkU 1 (.pointer (some ⟨c, 0, none⟩)) rfl (fun W hC => by go_simp) hHeld ?_
 simp only [Act.put, aS0, aS1, aS2]
 refine tkU 2 (.pointer (some ⟨c, 0, none⟩)) rfl (fun W hC => by go_simp) hHeld ?_
 simp only [Act.put, aS0, aS1, aS2]
 refine tkU 3 (.pointer (some ⟨b, 0, none⟩)) rfl (fun W hC => by (obtain ⟨y0, y1, y2, y3⟩ := hC); go_simp) hHeld ?_
 simp only [Act.put, aS0, aS1, aS2]
 refine tkU 4 (.pointer (some ⟨A, 0, none⟩)) rfl (fun W hC => by go_simp) hHeld ?_
 simp only [Act.put, aS0, aS1, aS2]
 refine tkU 5 (.slice ar rl cr) rfl (fun W hC => by (obtain ⟨y0, y1, y2, y3⟩ := hC); go_simp) hHeld ?_
 simp only [Act.put, aS0, aS1, aS2]
 refine tkU 6 (.pointer (some ⟨M, 0, none⟩)) rfl (fun W hC => by go_simp) hHeld ?_
 simp only [Act.put, aS0, aS1, aS2]
 refine tkU 7 (.int .i64 x) rfl (fun W hC => by (obtain ⟨y0, y1, y2, y3⟩ := hC); go_simp) hHeld ?_
 simp only [Act.put, aS0, aS1, aS2]
 refine tkU 8 (.pointer (some ⟨M, 1, none⟩)) rfl (fun W hC => by go_simp) hHeld ?_
 simp only [Act.put, aS0, aS1, aS2]
 refine tkU 9 (.int .i64 y) rfl (fun W hC => by (obtain ⟨y0, y1, y2, y3⟩ := hC); go_simp) hHeld ?_
 simp only [Act.put, aS0, aS1, aS2]
 refine wpAnyH_ready (rs := [10]) (by kernel_rfl) (by simp) ?_
 refine AllReadyH.consU rfl (fun K' hK' => ?_) AllReadyH.nil
 go_simp
 refine (HFA.out W0.drew HB0.out.drew).mono ?_
 rintro e w7 ⟨rfl, hb7⟩
 have hb67 : Below W0.heap.size W0 w7 := ⟨hb7.os, hb7.tape, hb7.output, hb7.size, hb7.block⟩
 have HB7 := hid hb67
 refine hK'.out _ _ (HKS.out w7 hb67) (fun hHeld => ?_)
 clear hK' K'
 refine tkU 11 (.tuple #[.int .i64 met, .int .i64 srt]) rfl (fun W hC => by go_simp) hHeld ?_
 simp only [Act.put, aS0, aS1, aS2]
 refine tkU 12 (.int .i64 met) rfl (fun W hC => by go_simp) hHeld ?_
 simp only [Act.put, aS0, aS1, aS2]
 refine tkU 13 (.int .i64 srt) rfl (fun W hC => by go_simp) hHeld ?_
 simp only [Act.put, aS0, aS1, aS2]
 refine tkU 14 (.int .i64 met) rfl (fun W hC => by go_simp) hHeld ?_
 simp only [Act.put, aS0, aS1, aS2]
 refine tkU 15 (.int .i64 srt) rfl (fun W hC => by go_simp) hHeld ?_
 simp only [Act.put, aS0, aS1, aS2]
 refine wpAnyH_done (by kernel_rfl) ?_ _
 have HC7 := hid (HC0.out.below HB7.out HSM.out.1 HSM.out.2.1 HSM.out.2.2.1 HSM.out.2.2.2)
 have kf7 := HC7.out.f
 have a1 : w7.cell? ⟨A, 1, none⟩ = some (.int .i64 z) := by
  have := (HB7.out.block A HLT.out.1).trans HA.out
  simp [World.cell?, this]
 have b1 : w7.cell? ⟨B, 1, none⟩ = some (.int .i64 z') := by
  have := (HB7.out.block B HLT.out.2).trans HBB.out
  simp [World.cell?, this]
 have HBF := hid (HB0.out.trans (HB7.out.mono HB0.out.size))
 have QP := qpL HC7.out.p
 clear hHeld hb7 hb67 kf a0 n0 n1 HFA HC0 HA HBB HNN HB7
 go_wp2_with fail
 go_quiet (first
  | (go_at_call 49; first | with_reducible exact Calls.quiet_of_same (HM1.out _ (QP.out _)) | with_reducible exact Calls.quiet_of_same (HM2.out _ (QP.out _)))
  | (go_at_call 52; with_reducible exact Calls.quiet_of_same (HSB.out _ (QP.out _))))
 go_wp2_with fail
 go_ret
 exact ⟨by rw [HE.out]; rfl, below_drewN HBF.out _⟩
theorem row2_arr {W : World} {g : Nat} {t : TypeId} {f : Nat -> Value} (h : W.rowIs g t 2 f) : W.heap[g]? = some (.cells #[f 0, f 1] t (0, 0)) := by
 obtain ⟨c, hb, hs, hc⟩ := h
 rw [hb]
 congr 2
 apply Array.ext
 ·simpa using hs
 ·intro i h1 h2
  have h4 : i < 2 := by simpa using h2
  have := hc i h4
  rw [Array.getElem?_eq_getElem h1] at this
  injection this with this
  rw [this]
  have : i = 0 ∨ i = 1 := by omega
  rcases this with rfl | rfl <;> rfl
theorem row2_of {W : World} {g : Nat} {t : TypeId} {a b : Value} (h : W.heap[g]? = some (.cells #[a, b] t (0, 0))) : W.rowIs g t 2 (fun i => #[a, b].getD i .nilFunc) :=
 ⟨_, h, rfl, fun i hi => by
  have : i = 0 ∨ i = 1 := by omega
  rcases this with rfl | rfl <;> rfl⟩
theorem put2_heap {W : World} {g : Nat} {t : TypeId} {z0 z1 : Value} (h : W.heap[g]? = some (.cells #[z0, z1] t (0, 0))) (a b : Value) : ((W.setCell ⟨g, 0, none⟩ a).setCell ⟨g, 1, none⟩ b).heap[g]? = some (.cells #[a, b] t (0, 0)) := by
 have := row2_arr (((row2_of h).set 0 a).set 1 b)
 simpa using this
theorem put2_other {W : World} {g k : Nat} (h : k ≠ g) (a b : Value) : ((W.setCell ⟨g, 0, none⟩ a).setCell ⟨g, 1, none⟩ b).heap[k]? = W.heap[k]? := by
 rw [Below.heap_setCell _ _ _ _ h, Below.heap_setCell _ _ _ _ h]
theorem put2_below {N : Nat} {w W : World} {g : Nat} (e : Below N w W) (hg : N <= g) (a b : Value) : Below N w ((W.setCell ⟨g, 0, none⟩ a).setCell ⟨g, 1, none⟩ b) :=
 ⟨e.os, e.tape, e.output, by simpa [World.setCell] using e.size, fun k hk => by rw [put2_other (show k ≠ g by omega)]; exact e.block k hk⟩
theorem within1_any (i N B1 B2 G1 G2 : Nat) (K1 K2 m : Nat) (z : Int) (w : World) (h1 : w.cell? ⟨B1, 0, none⟩ = some (.slice (some ⟨G1, 0, none⟩) N N)) (h2 : w.cell? ⟨B2, 0, none⟩ = some (.slice (some ⟨G2, 0, none⟩) N N)) (hi : i < N) (hc1 : w.cell? ⟨G1, i, none⟩ = some (.slice (some ⟨K1, 0, none⟩) m m)) (hc2 : w.cell? ⟨G2, i, none⟩ = some (.slice (some ⟨K2, 0, none⟩) 1 1)) (hz : w.cell? ⟨K2, 0, none⟩ = some (.int .i64 z)) :
  Calls Tryz.prog 44 #[.int .i64 (i : Int), .pointer (some ⟨B1, 0, none⟩), .pointer (some ⟨B2, 0, none⟩)] w fun e w' => e = .returned (.agg #[.slice (some ⟨K1, 0, none⟩) m m, .int .i64 z]) /\ Below w.heap.size w w' := by
 have hmx : Tryz.prog.follows .mixedOrders = true := by kernel_rfl
 have hi2 : (i : Int) < (N : Int) := by omega
 obtain ⟨W0, hW0⟩ := exE (w.alloc (.cells #[.slice none 0 0, .int .i64 0] 90))
 have hb0 := blA hW0
 have hs0 := haA hW0
 have k1 := (hb0.cell (p := ⟨B1, 0, none⟩) (heap_lt h1)).trans h1
 have k2 := (hb0.cell (p := ⟨B2, 0, none⟩) (heap_lt h2)).trans h2
 have k3 := (hb0.cell (p := ⟨G1, i, none⟩) (World.block_lt_of_cell? _ _ hc1)).trans hc1
 have k4 := (hb0.cell (p := ⟨G2, i, none⟩) (World.block_lt_of_cell? _ _ hc2)).trans hc2
 have k5 := (hb0.cell (p := ⟨K2, 0, none⟩) (heap_lt hz)).trans hz
 have y0 := clA 0 hs0 rfl
 have y1 := clA 1 hs0 rfl
 have f0 : W0.frozen? ⟨w.heap.size, 0, none⟩ = false := by simp [World.frozen?, hs0]
 have f1 : W0.frozen? ⟨w.heap.size, 1, none⟩ = false := by simp [World.frozen?, hs0]
 have HB0 := hid hb0
 have HS0 := hid hs0
 clear hb0 hs0 h1 h2 hc1 hc2 hz
 obtain ⟨A, hA⟩ := exE (w.heap.size)
 rw [<- hA] at y0 y1 f0 f1 HS0
 have HA := hid hA
 go_enter Tryz.func44, Tryz.ntmps44
 go_wp2_with fail
 rw [<- hW0, <- hA]
 clear hW0 hA
 go_wp2_with fail
 go_still_tail 11, hmx
 go_wp2_with fail
 refine bodyPost_ret (results_cell_row rfl _ _ A 90 #[.slice (some ⟨K1, 0, none⟩) m m, .int .i64 z] (0, 0) _ rfl (put2_heap HS0.out (.slice (some ⟨K1, 0, none⟩) m m) (.int .i64 z)) Tryz.underlying90 rfl (by kernel_rfl)) rfl ?_
 exact ⟨rfl, (put2_below HB0.out (by rw [HA.out]; exact Nat.le_refl _) _ _).drew⟩
open Go.RowKit
structure OwI (base g cap : Nat) (w : World) (zs : List Int) : Prop where
 own : w.ownsRow base 3 1 (.slice (some ⟨g, 0, none⟩) zs.length cap) zs.length (zs.map (Value.int .i64))
 lo : base <= g
 row : IRow g w zs
theorem owI_of {w : World} {base : Nat} {v : Value} {zs : List Int} (h : w.ownsRow base 3 1 v zs.length (zs.map (Value.int .i64))) (h0 : 0 < zs.length) : ∃ g cap, v = .slice (some ⟨g, 0, none⟩) zs.length cap /\ OwI base g cap w zs := by
 have h' := h
 rcases h.2 with ⟨_, h2⟩ | ⟨g, cap, cur, hv, hb, hg, hn, hm, hs, ht⟩
 ·omega
 ·refine ⟨g, cap, hv, by rw [<- hv]; exact h', hb, (Array.getElem?_eq_some_iff.1 hg).1, fun k hk => ?_, fun j => by simp [World.frozen?, hg]⟩
  have h1 : (cur.toList.take (zs.length * 1))[k]? = (zs.map (Value.int .i64))[k]? := by rw [ht]
  rw [List.getElem?_take, if_pos (by omega)] at h1
  have h2 : cur[k]? = some (.int .i64 (zat zs k)) := by
   rw [<- Array.getElem?_toList, h1]
   simp [zat, hk]
  simp [World.cell?, hg, h2]
theorem OwI.set {base g cap : Nat} {w : World} {zs : List Int} (h : OwI base g cap w zs) {k : Nat} (hk : k < zs.length) (x : Int) : OwI base g cap (w.setCell ⟨g, k, none⟩ (.int .i64 x)) (zs.set k x) := by
 have hr := h.row.set x hk
 refine ⟨?_, h.lo, hr⟩
 rcases h.own.2 with ⟨e, _⟩ | ⟨g', cap', cur, hv, hb, hg, hn, hm, hs, ht⟩
 ·cases e
 ·injection hv with e1 _ e3
  injection e1 with e1
  injection e1 with e1
  subst e1 e3
  have hrow : w.rowIs g 3 (cap * 1) (fun i => (cur[i]?).getD (.int .i64 0)) := ⟨cur, hg, hs, fun i hi => by
   have : i < cur.size := by omega
   simp [this]⟩
  obtain ⟨c2, q1, q2, q3⟩ := hrow.set k (.int .i64 x)
  refine ⟨by simp, .inr ⟨g, cap, c2, by rw [List.length_set], hb, q1, by rw [List.length_set]; exact hn, hm, q2, ?_⟩⟩
  apply List.ext_getElem?
  intro j
  rw [List.length_set]
  by_cases hj : j < zs.length
  ·rw [List.getElem?_take, if_pos (by omega), Array.getElem?_toList, q3 j (by omega)]
   have h1 : (cur.toList.take (zs.length * 1))[j]? = (zs.map (Value.int .i64))[j]? := by rw [ht]
   rw [List.getElem?_take, if_pos (by omega), Array.getElem?_toList] at h1
   by_cases e : j = k
   ·subst e; simp [hj]
   ·simp only [if_neg e, h1, List.getElem?_map, List.getElem?_set_ne (fun h => e h.symm)]
    simp [hj]
  ·rw [List.getElem?_take, if_neg (by omega), List.getElem?_eq_none (by simp; omega)]
theorem OwI.below {base g cap n0 : Nat} {w w' : World} {zs : List Int} (h : OwI base g cap w zs) (e : Below n0 w w') (hg : g < n0) : OwI base g cap w' zs := by
 refine ⟨⟨h.own.1, ?_⟩, h.lo, h.row.block (e.block g hg)⟩
 rcases h.own.2 with ⟨q, _⟩ | ⟨g', cap', cur, hv, hb, hh, rest⟩
 ·cases q
 ·have hv' := hv
  injection hv' with e1 _ _
  injection e1 with e1
  injection e1 with e1
  subst e1
  exact .inr ⟨g, cap', cur, hv, hb, (e.block g hg).trans hh, rest⟩
theorem OwI.drew {base g cap : Nat} {w : World} {zs : List Int} (h : OwI base g cap w zs) : OwI base g cap w.drew zs := ⟨h.own, h.lo, ⟨h.row.lt, h.row.cells, h.row.soft⟩⟩
end Go.Proofs.YtjlngcmkgkiplaaGreatDoor
