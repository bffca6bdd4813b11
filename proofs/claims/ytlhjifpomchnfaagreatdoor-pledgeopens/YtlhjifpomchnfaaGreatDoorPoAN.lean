
import Derived.Test.YtlhjifpomchnfaaGreatDoorPoAI
import Derived.Test.YtlhjifpomchnfaaGreatDoorPoAM
import Derived.Test.YtlhjifpomchnfaaGreatDoorFld
import Derived.OrdersHeld
import Derived.Deep.RegionHeld3
set_option maxRecDepth 1000000
set_option maxHeartbeats 8000000
namespace Go.Proofs.YtlhjifpomchnfaaGreatDoor
open Go.RowKit
theorem slr_arr {w : World} {g n : Nat} {t : TypeId} {f : Nat -> Int} {l : List Int} (h : ArrI w g t n f) (hl : l.length = n) (hz : ∀ j, j < n -> zat l j = f j) (h1 : t ≠ 22) (h2 : t ≠ 31) (h3 : t ≠ 84) (h4 : t ≠ 52) (h5 : t ≠ 29) (h6 : t ≠ 431) : SlR w l (.slice (some ⟨g, 0, none⟩) n n) :=
 ⟨some ⟨g, 0, none⟩, n, by rw [hl], ⟨fun k hk => ⟨g, 0, rfl, h.lt, by rw [Nat.zero_add, h.cell (by omega), hz k (by omega)]⟩, by omega, fun e => by cases e⟩, fun _ => ⟨g, 0, rfl, _, t, (0, 0), h.heap, h1, h2, h3, h4, h5, h6⟩⟩
structure OpB (q n d b s : Nat) (a : Option Addr) (cap : Nat) (rows : List (List Int)) (w : World) (G O : Nat) (os : List Int) (ap : Option Addr) (cp : Nat) (W : World) : Prop where
 res : W.rowIs w.heap.size 31 3 (tri (.slice none 0 0) (.slice none 0 0) (.slice none 0 0))
 all : W.rowIs G 201 2 (duo (.int .i64 0) (.int .i64 (rows.length : Int)))
 below : Below w.heap.size w W
 places : SlR W os (.slice ap os.length cp)
 isO : ∃ c f, W.heap[O]? = some (.cells c 31 f)
 hG : w.heap.size < G
 hO : G < O
theorem OpB.pair {q n d b s : Nat} {a : Option Addr} {cap : Nat} {rows : List (List Int)} {w : World} {G O B : Nat} {os : List Int} {ap : Option Addr} {cp : Nat} {W W' : World} (h : OpB q n d b s a cap rows w G O os ap cp W) (hB : B = O ∨ (NotC W B /\ O < B)) (hp : Pair O B W W') (hO : ∃ c f, W'.heap[O]? = some (.cells c 31 f)) : OpB q n d b s a cap rows w G O os ap cp W' := by
 have h1 := h.hG
 have h2 := h.hO
 have hB1 : O <= B := by rcases hB with rfl | h; exact Nat.le_refl _; omega
 refine ⟨h.res.of_block (hp.block _ h.res.lt (by omega) (by omega)), h.all.of_block (hp.block _ h.all.lt (by omega) (by omega)), h.below.trans (hp.below h.below.size (by omega) (by omega)), h.places.pair h.isO (hB.imp id And.left) hp, hO, h1, h2⟩
theorem OpB.keep {q n d b s : Nat} {a : Option Addr} {cap : Nat} {rows : List (List Int)} {w : World} {G O : Nat} {os : List Int} {ap : Option Addr} {cp : Nat} {W W' : World} (h : OpB q n d b s a cap rows w G O os ap cp W) (hp : Below W.heap.size W W') : OpB q n d b s a cap rows w G O os ap cp W' := by
 obtain ⟨c, f, hc⟩ := h.isO
 exact ⟨h.res.of_block (hp.block _ h.res.lt), h.all.of_block (hp.block _ h.all.lt), h.below.trans (hp.mono h.below.size), h.places.keep hp, ⟨c, f, (hp.block _ (Array.getElem?_eq_some_iff.1 hc).1).trans hc⟩, h.hG, h.hO⟩
theorem open_any (q n d b s cap cp : Nat) (a ap : Option Addr) (rows : List (List Int)) (ps : List Int) (w : World) (ok : SpgOk q n d) (hs : SpgAt w s b q n d) (h1 : 1 <= rows.length) (h2 : rows.length <= 65536) (hpl : ps.length <= 17592186044400) (hfr : FitsR rows) (hl : LstR w.heap.size w a cap rows) (hrow : RowB w.heap.size w ap ps) (hin : ps.any (lackb 0 rows.length) = false) :
  Calls Tryz.prog 83 #[.pointer (some ⟨s, 0, none⟩), .slice a rows.length cap, .slice ap ps.length cp] w (OpnR q n rows ps w) := by
 have hyes : (decide (1 <= (rows.length : Int)) && decide ((rows.length : Int) <= 65536)) = true := by
  rw [Bool.and_eq_true, decide_eq_true_eq, decide_eq_true_eq]
  omega
 have h3 : 3 <= q := by have := ok.h23; omega
 have hm := ok.hm
 have hmx : Tryz.prog.follows .mixedOrders = true := by kernel_rfl
 have HB0 : Hid (Below w.heap.size w (w.alloc (.cells #[.slice none 0 0, .slice none 0 0, .slice none 0 0] 31))) := (Below.refl _ _).alloc (Nat.le_refl _) _
 have HR0 := hid (tri_new w 31 (.slice none 0 0) (.slice none 0 0) (.slice none 0 0))
 have HRW := hid hrow
 have HSP := hid hs
 have HOK := hid ok
 have HFR := hid hfr
 have HLR := hid hl
 have HIN : Hid (∀ x, x ∈ ps -> 0 <= x /\ x < (rows.length : Int)) := fun x hx => by
  have := List.any_eq_false.1 hin x hx
  simp [lackb] at this
  omega
 clear hrow hs ok hfr hl
 go_enter Tryz.func83, Tryz.ntmps83
 go_wp2_with fail
 refine (issize_any (rows.length : Int) _).mono ?_
 rintro e w1 ⟨rfl, rfl⟩
 rw [hyes]
 clear hyes
 generalize w.alloc (.cells #[.slice none 0 0, .slice none 0 0, .slice none 0 0] 31) = W0 at *
 have HB1 : Hid (Below W0.heap.size W0 (W0.alloc (.cells #[.int .i64 0, .int .i64 (rows.length : Int)] 201))) := (Below.refl _ _).alloc (Nat.le_refl _) _
 have HG1 := hid (duo_new W0 201 (.int .i64 0) (.int .i64 (rows.length : Int)))
 have HR1 := hid (HR0.out.of_block (HB1.out.block _ HR0.out.lt))
 have hG0 : w.heap.size < W0.heap.size := HR0.out.lt
 go_wp2_with fail
 generalize W0.alloc (.cells #[.int .i64 0, .int .i64 (rows.length : Int)] 201) = W1 at *
 have HBW := hid (HB0.out.trans (HB1.out.mono HB0.out.size))
 have g0 := HG1.out.cell (i := 0) (by omega)
 have g1 := HG1.out.cell (i := 1) (by omega)
 have HCT := hid (contains_any 0 rows.length cp ap ps W1 (by omega) ((HRW.out.below HBW.out).mono HBW.out.size))
 rw [hin, Int.natCast_zero] at HCT
 clear hin
 go_wp2_with fail
 refine HCT.out.mono ?_
 rintro e w2 ⟨rfl, hb2⟩
 have HR2 := hid (HR1.out.of_block (hb2.block _ HR1.out.lt))
 have HG2 := hid (HG1.out.of_block (hb2.block _ HG1.out.lt))
 have HB2 := hid (HBW.out.trans (hb2.mono HBW.out.size))
 have hG2 : W0.heap.size < w2.heap.size := HG2.out.lt
 clear hb2 g0 g1 HR1 HBW HB1 HG1 HCT
 go_wp2_with fail
 refine (vals_any ap ps.length cp w2).mono ?_
 rintro e w3 ⟨rfl, rfl⟩
 have HBv : Hid (Below w2.heap.size w2 (w2.alloc (.cells #[.slice ap ps.length cp] 22))) := (Below.refl _ _).alloc (Nat.le_refl _) _
 have HCv : Hid ((w2.alloc (.cells #[.slice ap ps.length cp] 22)).cell? ⟨w2.heap.size, 0, none⟩ = some (.slice ap ps.length cp)) := by
  unfold Hid
  rw [World.cell?_alloc_at _ _ _ _ rfl]
  rfl
 have HB3 := hid (HB2.out.trans (HBv.out.mono HB2.out.size))
 have HR3 := hid (HR2.out.of_block (HBv.out.block _ HR2.out.lt))
 have HG3 := hid (HG2.out.of_block (HBv.out.block _ HG2.out.lt))
 have hG3 : W0.heap.size < (w2.alloc (.cells #[.slice ap ps.length cp] 22)).heap.size := HG3.out.lt
 have HSO := hid (sorted_any w2.heap.size cp ap ps (w2.alloc (.cells #[.slice ap ps.length cp] 22)) hpl HCv.out ((HRW.out.below HB3.out).mono HB3.out.size))
 clear HR2 HG2 HB2 HBv HCv hG2
 generalize w2.alloc (.cells #[.slice ap ps.length cp] 22) = W3 at *
 obtain ⟨zs, hzs⟩ := exE ((ps.mergeSort fun x y => decide (x <= y)))
 have hzl : zs.length = ps.length := by rw [hzs]; simp
 obtain ⟨os, hos⟩ := exE (Lib.compact zs)
 have HOS : Hid (OnceIs ps os) := by unfold Hid; rw [hos, hzs]; exact once_compact ps
 rw [<- hzs, <- hzl] at HSO
 have HCP : Hid (∀ v W, W.ownsRow W3.heap.size 3 1 v zs.length (zs.map (Value.int .i64)) -> Below W3.heap.size W3 W -> Calls Tryz.prog 117 #[v] W fun e w' => ∃ ao co, e = .returned (.slice ao os.length co) /\ SlR w' os (.slice ao os.length co) /\ Below W3.heap.size W3 w') := fun v W ho hb => by
  refine (compact_own W3.heap.size v zs W (by omega) ho hb.size).mono ?_
  rintro e w' ⟨v', rfl, h1, h2⟩
  rw [<- hos] at h1
  obtain ⟨ao, co, rfl, _⟩ := lst_of_owns h1
  exact ⟨ao, co, rfl, slr_of_owns h1, hb.trans h2⟩
 clear hzs hzl hos
 go_wp2_with fail
 refine HSO.out.mono ?_
 rintro e w4 ⟨v4, rfl, ho4, hb4⟩
 have HO4 := hid ho4
 have HB4 := hid hb4
 clear ho4 hb4 HSO
 go_wp2_with fail
 refine (HCP.out v4 w4 HO4.out HB4.out).mono ?_
 rintro e w5 ⟨ao, co, rfl, hsl, hb5⟩
 have HSL := hid hsl
 have HR5 := hid (HR3.out.of_block (hb5.block _ HR3.out.lt))
 have HG5 := hid (HG3.out.of_block (hb5.block _ HG3.out.lt))
 have HB5 := hid (HB3.out.trans (hb5.mono HB3.out.size))
 have hG5 : W0.heap.size < w5.heap.size := HG5.out.lt
 clear hsl hb5 HO4 HB4 HCP HR3 HG3 HB3 hG3
 have HBX : Hid (Below w5.heap.size w5 (w5.alloc (.cells #[.slice ao os.length co, .slice none 0 0, .slice none 0 0] 31))) := (Below.refl _ _).alloc (Nat.le_refl _) _
 have HO6 := hid (tri_new w5 31 (.slice ao os.length co) (.slice none 0 0) (.slice none 0 0))
 have HOB : Hid (OpB q n d b s a cap rows w W0.heap.size w5.heap.size os ao co (w5.alloc (.cells #[.slice ao os.length co, .slice none 0 0, .slice none 0 0] 31))) :=
  ⟨HR5.out.of_block (HBX.out.block _ HR5.out.lt), HG5.out.of_block (HBX.out.block _ HG5.out.lt), HB5.out.trans (HBX.out.mono HB5.out.size), HSL.out.keep HBX.out, ⟨_, _, tri_arr HO6.out⟩, hG0, hG5⟩
 clear HR5 HG5 HB5 HBX HSL hG5
 go_wp2_with fail
 generalize w5.alloc (.cells #[.slice ao os.length co, .slice none 0 0, .slice none 0 0] 31) = W6 at *
 generalize w5.heap.size = O at *
 generalize W0.heap.size = G at *
 have c0 := HO6.out.cell (i := 0) (by omega)
 simp only [tri] at c0
 go_wp2_with fail
 clear c0
 have hol2 : os.length <= rows.length := by
  have := asc_le (ps := (List.range rows.length).map (fun i : Nat => (i : Int))) HOS.out.1 (fun x hx => by
   obtain ⟨e1, e2⟩ := HIN.out x ((HOS.out.2 x).1 hx)
   exact List.mem_map.2 ⟨x.toNat, List.mem_range.2 (by omega), by omega⟩)
  simpa using this
 have hol : os.length <= ps.length := asc_le HOS.out.1 (fun x hx => (HOS.out.2 x).1 hx)
 go_loopw [41] (fun iv wr => ∃ (k : Nat) (ar : Option Addr) (cr : Nat), k <= os.length /\ iv = .int .i64 k /\ Hid (wr.rowIs O 31 3 (tri (.slice ao os.length co) (.slice ar k cr) (.slice none 0 0)) /\ Pair O O W6 wr /\ OwnR W6.heap.size wr (.slice ar k cr) (shw q rows (os.take k)))) (fun iv _ => os.length - (intOf iv).toNat)
 case atStart => exact ⟨0, none, 0, Nat.zero_le _, rfl, HO6.out, Pair.refl _ _ _, by rw [List.take_zero]; exact OwnR.nil _ _⟩
 case round =>
  obtain ⟨k, ar, cr, hk, rfl, hC⟩ := hrel
  have HOW := hid (HOB.out.pair (.inl rfl) hC.out.2.1 (rowO hC.out.1))
  by_cases hlt : k < os.length
  ·have hlt2 : (k : Int) < (os.length : Int) := by omega
   have hks : IntKind.i64.wrap ((k : Int) + 1) = (k : Int) + 1 := by rw [IntKind.wrap_i64]; omega
   obtain ⟨_, _, e1, cL⟩ := HOW.out.places.lst
   cases e1
   obtain ⟨b1, o1, rfl, _, hc1⟩ := cL.row k hlt
   obtain ⟨hx0, hx1⟩ := HIN.out (zat os k) ((HOS.out.2 _).1 (zat_mem hlt))
   obtain ⟨y, hy⟩ := Int.eq_ofNat_of_zero_le hx0
   have hyl : y < rows.length := by omega
   have hyl2 : (y : Int) < (rows.length : Int) := by omega
   obtain ⟨b2, o2, ak, ck, rfl, hb2, hc2, hlk⟩ := HLR.out.row y hyl
   have HSN : Hid (shw q rows (os.take (k + 1)) = shw q rows (os.take k) ++ [elr q (rat rows y)]) := by
    unfold Hid
    rw [shw_snoc q rows hlt, hy, Int.toNat_natCast]
   rw [hy] at hc1
   have HTL : Hid ((shw q rows (os.take k)).length = k) := by unfold Hid; rw [shw_len, List.length_take]; omega
   obtain ⟨ly, hly⟩ := exE ((rat rows y).length)
   rw [<- hly] at hc2
   have hOl : O < wr.heap.size := hC.out.1.lt
   have HKe : Hid (∀ W, Below wr.heap.size wr W -> W.cell? ⟨O, 1, none⟩ = some (.slice ar k cr) /\ W.cell? ⟨b2, o2 + y, none⟩ = some (.slice ak ly ck)) := fun W h =>
    ⟨(h.cell (p := ⟨O, 1, none⟩) hOl).trans (hC.out.1.cell (i := 1) (by omega)), ((HOW.out.below.trans (h.mono HOW.out.below.size)).cell (p := ⟨b2, o2 + y, none⟩) hb2).trans hc2⟩
   have HFd : Hid (∀ W, Below wr.heap.size wr W -> Calls Tryz.prog 19 #[.pointer (some ⟨s, 0, none⟩)] W fun e w' => e = .returned (.pointer (some ⟨b, 0, none⟩)) /\ w' = W) := fun W h => sfield_any q n d b s W (HSP.out.keep (HOW.out.below.trans (h.mono HOW.out.below.size)))
   have HEl : Hid (∀ W, Below wr.heap.size wr W -> Calls Tryz.prog 159 #[.pointer (some ⟨b, 0, none⟩), .slice ak ly ck] W fun e w' => ∃ ge, e = .returned (.slice (some ⟨ge, 0, none⟩) ly ly) /\ Below wr.heap.size wr w' /\ ∃ a4 c4 w4, (Builtin.append_ #[29, 29] 29 #[.slice ar k cr, .slice (some ⟨w'.heap.size, 0, none⟩) 1 1]).run Tryz.prog (w'.alloc (.cells #[.slice (some ⟨ge, 0, none⟩) ly ly] 22)) = .ok (.slice a4 (k + 1) c4) w4 /\ w4.cell? ⟨O, 1, none⟩ = some (.slice ar k cr) /\ w4.frozen? ⟨O, 1, none⟩ = false /\ Hid ((w4.setCell ⟨O, 1, none⟩ (.slice a4 (k + 1) c4)).rowIs O 31 3 (tri (.slice (some ⟨b1, o1, none⟩) os.length co) (.slice a4 (k + 1) c4) (.slice none 0 0)) /\ Pair O O W6 (w4.setCell ⟨O, 1, none⟩ (.slice a4 (k + 1) c4)) /\ OwnR W6.heap.size (w4.setCell ⟨O, 1, none⟩ (.slice a4 (k + 1) c4)) (.slice a4 (k + 1) c4) (shw q rows (os.take (k + 1))))) := fun W h => by
    have hbw := HOW.out.below.trans (h.mono HOW.out.below.size)
    have hf := HFR.out y hyl
    rw [hly]
    refine (elements_any q b ck ak (rat rows y) W h3 hm (HSP.out.keep hbw).p (by have := hf.2; omega) hf.1 ((hlk.row.below hbw).mono hbw.size)).mono ?_
    rintro e w' ⟨rfl, hA, hb'⟩
    have h' := h.trans (hb'.mono h.size)
    have hS := slr_arr (l := elr q (rat rows y)) hA (by unfold elr; rw [ls_len]) (fun j hj => by unfold elr; rw [ls_at _ _ _ hj]) (by decide) (by decide) (by decide) (by decide) (by decide) (by decide)
    have hO' := hC.out.2.2.keep h'
    have hz6 := Nat.le_trans hC.out.2.1.size h'.size
    obtain ⟨v4, w4, hr, ho4, hb4, hn4, _, hz4⟩ := run_row1 w' W6.heap.size _ _ _ _ hO' hS (by rw [HTL.out]; omega) hz6
    rw [<- HSN.out] at ho4
    obtain ⟨a4, c4, e4, _⟩ := ho4.lst
    have hl4 : (shw q rows (os.take (k + 1))).length = k + 1 := by rw [shw_len, List.length_take]; omega
    rw [hl4] at e4
    subst e4
    have dO := (hC.out.1.of_block (h'.block _ hOl)).of_block (hb4.block O (HO6.out.lt))
    refine ⟨_, rfl, h', a4, c4, w4, hr, ?_, dO.frozen 1, tri_set1 dO _, ?_, ho4.setO (rowO dO)⟩
    ·exact dO.cell (i := 1) (by omega)
    ·exact ((pair_bl (hC.out.2.1) (h'.mono hC.out.2.1.size) h'.size) |> fun p => (pair_bl p hb4 hz4)).setCell (p := ⟨O, 1, none⟩) (.inl rfl) _
   have hlyb : ly <= 281474976710656 := by have := (HFR.out y hyl).2; omega
   clear hC hc2 hlk hy hx0 hx1 hly cL
   go_wp2_with fail
   have hb30 : Below wr.heap.size wr wr.drew := (Below.refl _ _).drew
   refine wp_region_S (C := fun W => Below wr.heap.size wr W) (st := [10, 12]) hmx ?_
   show wpAnyS _ _ _ _ _ _ 13 (Array.replicate 13 false) _ _
   refine wpAnyS_pure (i := 0) (v := .pointer (some ⟨O, 1, none⟩)) rfl (by kernel_rfl) (by kernel_rfl) (by kernel_rfl) (by kernel_rfl) (fun _ _ _ h => h) (Or.inl ⟨by rfl, fun W _ => ?_⟩) (fun _ => hb30) ?_
   ·go_simp
   refine wpAnyS_take (i := 1) (v := .slice ar k cr) rfl (by kernel_rfl) (by kernel_rfl) (by kernel_rfl) (by kernel_rfl) (by kernel_rfl) (by kernel_rfl) (fun _ _ _ h => h) (Or.inl ⟨by rfl, fun W hC => ?_⟩) hb30 ?_
   ·obtain ⟨q0, q1⟩ := HKe.out W hC
    go_simp
   refine wpAnyS_pure (i := 2) (v := .pointer (some ⟨s, 0, none⟩)) rfl (by kernel_rfl) (by kernel_rfl) (by kernel_rfl) (by kernel_rfl) (fun _ _ _ h => h) (Or.inl ⟨by rfl, fun W _ => ?_⟩) (fun _ => hb30) ?_
   ·go_simp
   refine wpAnyS_pure (i := 4) (v := .slice (some ⟨b2, o2, none⟩) rows.length cap) rfl (by kernel_rfl) (by kernel_rfl) (by kernel_rfl) (by kernel_rfl) (fun _ _ _ h => h) (Or.inl ⟨by rfl, fun W _ => ?_⟩) (fun _ => hb30) ?_
   ·go_simp
   refine wpAnyS_pure (i := 5) (v := .int .i64 (y : Int)) rfl (by kernel_rfl) (by kernel_rfl) (by kernel_rfl) (by kernel_rfl) (fun _ _ _ h => h) (Or.inl ⟨by rfl, fun W _ => ?_⟩) (fun _ => hb30) ?_
   ·go_simp
   refine wpAnyS_pure (i := 6) (v := .pointer (some ⟨b2, o2 + y, none⟩)) rfl (by kernel_rfl) (by kernel_rfl) (by kernel_rfl) (by kernel_rfl) (fun _ _ _ h => h) (Or.inl ⟨by rfl, fun W _ => ?_⟩) (fun _ => hb30) ?_
   ·go_simp
   refine wpAnyS_take (i := 7) (v := .slice ak ly ck) rfl (by kernel_rfl) (by kernel_rfl) (by kernel_rfl) (by kernel_rfl) (by kernel_rfl) (by kernel_rfl) (fun _ _ _ h => h) (Or.inl ⟨by rfl, fun W hC => ?_⟩) hb30 ?_
   ·obtain ⟨q0, q1⟩ := HKe.out W hC
    go_simp
   refine wpAnyS_one (i := 3) (by kernel_rfl) ?_
   refine wpOp_step rfl (fun K' hK' => ?_)
   rw [if_pos (by rfl)]
   go_simp
   refine (HFd.out _ hb30).mono ?_
   rintro e w' ⟨rfl, rfl⟩
   refine hK' _ _ ⟨fun _ => hb30, ?_⟩
   clear hK' K'
   refine wpAnyS_one (i := 8) (by kernel_rfl) ?_
   refine wpOp_step rfl (fun K' hK' => ?_)
   rw [if_pos (by rfl)]
   go_simp
   refine (HEl.out _ hb30).mono ?_
   rintro e w7 ⟨ge, rfl, hb7, a4, c4, w8, hrun, hco, hfo, HE⟩
   refine hK' _ _ ⟨fun _ => hb7, ?_⟩
   clear hK' K'
   refine wpAnyS_one (i := 9) (by kernel_rfl) ?_
   refine wpOp_step rfl (fun K' hK' => ?_)
   rw [if_pos (by rfl)]
   go_simp
   refine hK' _ _ ⟨fun _ => hb7.alloc hb7.size _, ?_⟩
   clear hK' K'
   refine wpAnyS_one (i := 10) (by kernel_rfl) ?_
   refine wpOp_step rfl (fun K' hK' => ?_)
   rw [if_pos (by rfl)]
   refine wp_append_run _ _ _ _ rfl rfl _ _ _ _ hrun rfl rfl ?_
   refine hK' _ _ ⟨fun h => absurd (h 10 (by simp)) (by decide), ?_⟩
   clear hK' K'
   refine wpAnyS_one (i := 11) (by kernel_rfl) ?_
   refine wpOp_step rfl (fun K' hK' => ?_)
   rw [if_pos (by rfl)]
   go_simp
   refine hK' _ _ ⟨fun h => absurd (h 10 (by simp)) (by decide), ?_⟩
   clear hK' K'
   refine wpAnyS_one (i := 12) (by kernel_rfl) ?_
   refine wpOp_step rfl (fun K' hK' => ?_)
   rw [if_pos (by rfl)]
   go_simp
   refine hK' _ _ ⟨fun h => absurd (h 10 (by simp)) (by decide), wpAnyS_done (by kernel_rfl) ?_ _⟩
   clear hK' K'
   go_wp2_with fail
   go_roundw
   case rel => exact ⟨k + 1, a4, c4, by omega, by go_num, HE⟩
   case measure => simp [intOf]; omega
  ·obtain rfl : k = os.length := by omega
   have HCO := hC.out
   rw [List.take_length] at HCO
   have HC1 := hid HCO
   clear HCO hC
   go_wp2_with fail
   refine (newwalk_any s wr).mono ?_
   rintro e w7 ⟨rfl, hwl, hmp, hsz, hb7⟩
   have HWL := hid hwl
   have HMP := hid hmp
   have HSZ := hid hsz
   have HOW7 := hid (HOW.out.keep hb7)
   have HO7 := hid (HC1.out.1.of_block (hb7.block _ HC1.out.1.lt))
   have HOR7 := hid (HC1.out.2.2.keep hb7)
   have hOB : O < wr.heap.size := HC1.out.1.lt
   clear hwl hmp hsz hb7 HOW HC1
   have HHI : Hid (Calls Tryz.prog 161 #[.agg #[.int .i64 0, .int .i64 (rows.length : Int)], .slice ao os.length co] w7 fun e w' => ∃ av c5, e = .returned (.slice av (hd2 os rows.length 0 rows.length).length c5) /\ OwnG w7.heap.size w' (.slice av (hd2 os rows.length 0 rows.length).length c5) (hd2 os rows.length 0 rows.length) /\ Below w7.heap.size w7 w') := by
    have hsg := seg_all (N := rows.length) (ps := os) (fun x hx => HIN.out x ((HOS.out.2 x).1 hx))
    obtain ⟨_, _, e1, cL⟩ := HOW7.out.places.lst
    cases e1
    have := hidden_any os HOS.out.1 rows.length 0 rows.length h1 (Nat.le_refl _) (by omega) co ao w7 (by rw [hsg]; exact cL)
    rw [hsg, Nat.zero_add] at this
    refine this.mono ?_
    rintro e w' ⟨v, rfl, hov, hb⟩
    rcases hov.2 with ⟨rfl, h0⟩ | ⟨g5, c5, _, rfl, _⟩
    ·exact ⟨none, 0, by rw [h0], by rw [h0]; exact hov, hb⟩
    ·exact ⟨_, _, rfl, hov, hb⟩
   have k0 := HO7.out.cell (i := 0) (by omega)
   simp only [tri] at k0
   have g0 := HOW7.out.all.cell (i := 0) (by omega)
   have g1 := HOW7.out.all.cell (i := 1) (by omega)
   simp only [duo] at g0 g1
   obtain ⟨hl, hhl⟩ := exE ((hd2 os rows.length 0 rows.length).length)
   rw [<- hhl] at HHI
   have hll : hl <= 65536 := by have := hd2_len os rows.length 0 rows.length h1 (Nat.le_refl _); omega
   have HHL := hid hhl
   clear hhl
   go_wp2_with fail
   refine HHI.out.mono ?_
   rintro e w8 ⟨av, c5, rfl, hov, hb8⟩
   have HOV := hid hov
   have HWL8 := hid (HWL.out.block (hb8.block _ HWL.out.lt))
   have HMP8 := hid (HMP.out.below hb8 HMP.out.lt)
   have HOW8 := hid (HOW7.out.keep hb8)
   have HO8 := hid (HO7.out.of_block (hb8.block _ HO7.out.lt))
   have HOR8 := hid (HOR7.out.keep hb8)
   have hz8 : wr.heap.size + 2 <= w8.heap.size := by have := hb8.size; rw [HSZ.out] at this; exact this
   have hz7 : wr.heap.size + 2 <= w7.heap.size := by rw [HSZ.out]; exact Nat.le_refl _
   clear hov hb8 HWL HMP HOW7 HO7 HOR7 HSZ HHI k0 g0 g1
   generalize wr.heap.size = B at *
   go_wp2_with fail
   go_loopw [65] (fun iv wt => ∃ (t : Nat) (an' : Option Addr) (cn : Nat), t <= hl /\ iv = .int .i64 t /\ Hid (wt.rowIs O 31 3 (tri (.slice ao os.length co) (.slice ar os.length cr) (.slice an' t cn)) /\ Pair O B w8 wt /\ (∃ M, MapIs wt B M /\ Snd M (DR q n rows)) /\ OwnR w8.heap.size wt (.slice an' t cn) (((hd2 os rows.length 0 rows.length).take t).map (fun g => DR q n rows g.1 g.2)))) (fun iv _ => hl - (intOf iv).toNat)
   case atStart => exact ⟨0, none, 0, Nat.zero_le _, rfl, HO8.out, Pair.refl _ _ _, ⟨_, HMP8.out, fun _ _ _ h => by cases h⟩, by rw [List.take_zero]; exact OwnR.nil _ _⟩
   case round =>
    obtain ⟨t, an', cn, ht, rfl, hC⟩ := hrel
    have HNB : Hid (NotC w8 B) := fun c t' f e => by
     obtain ⟨es, cl, h0, _⟩ := HMP8.out
     rw [h0] at e
     cases e
    have HOW := hid (HOW8.out.pair (.inr ⟨HNB.out, hOB⟩) hC.out.2.1 (rowO hC.out.1))
    by_cases htl : t < hl
    ·have hlt2 : (t : Int) < (hl : Int) := by omega
     have hks : IntKind.i64.wrap ((t : Int) + 1) = (t : Int) + 1 := by rw [IntKind.wrap_i64]; omega
     obtain ⟨gv, e1, e2, e3, e4, e5⟩ := ownG_cells HOV.out (k := t) (by rw [<- HHL.out]; exact htl)
     simp only [Value.slice.injEq] at e1
     obtain ⟨rfl, -, -⟩ := e1
     have hgv : gv ≠ O /\ gv ≠ B := by
      constructor
      ·omega
      ·rintro rfl
       omega
     have c1 := (hC.out.2.1.cell (p := ⟨gv, t * 2, none⟩) e3 hgv.1 hgv.2).trans e4
     have c2 := (hC.out.2.1.cell (p := ⟨gv, t * 2 + 1, none⟩) e3 hgv.1 hgv.2).trans e5
     have hhd := hd_at (ps := os) h1 (show t < (hd2 os rows.length 0 rows.length).length by rw [<- HHL.out]; exact htl)
     have HSN : Hid (((hd2 os rows.length 0 rows.length).take (t + 1)).map (fun g => DR q n rows g.1 g.2) = ((hd2 os rows.length 0 rows.length).take t).map (fun g => DR q n rows g.1 g.2) ++ [DR q n rows ((hd2 os rows.length 0 rows.length).getD t (0, 0)).1 ((hd2 os rows.length 0 rows.length).getD t (0, 0)).2]) := by
      unfold Hid
      have hx : t < (hd2 os rows.length 0 rows.length).length := by rw [<- HHL.out]; exact htl
      rw [List.take_add_one, List.getElem?_eq_getElem hx, List.map_append, getDe _ _ hx]
      rfl
     have HTL : Hid ((((hd2 os rows.length 0 rows.length).take t).map (fun g => DR q n rows g.1 g.2)).length = t) := by unfold Hid; rw [List.length_map, List.length_take, <- HHL.out]; omega
     obtain ⟨x, hx⟩ := exE (((hd2 os rows.length 0 rows.length).getD t (0, 0)).1)
     obtain ⟨y, hy⟩ := exE (((hd2 os rows.length 0 rows.length).getD t (0, 0)).2)
     rw [<- hx, <- hy] at hhd HSN
     rw [<- hx] at c1
     rw [<- hy] at c2
     have hxy : x < y := hhd.1
     have hyN : y <= rows.length := hhd.2.1
     clear e2 e3 e4 e5 hx hy hhd
     obtain ⟨br, orr, _, _, rfl, hbr, _, _⟩ := HLR.out.row 0 h1
     have hycap : y <= cap := Nat.le_trans hyN HLR.out.room
     have hxy2 : x <= y := by omega
     have hxc : ¬ cap = x := by omega
     have hadd : (⟨br, orr, none⟩ : Addr).add x = ⟨br, orr + x, none⟩ := by unfold Addr.add; split <;> simp_all
     obtain ⟨m, hmyx⟩ : ∃ m, y - x = m := ⟨_, rfl⟩
     have hmy : x + m = y := by omega
     have hyb : y <= 65536 := by omega
     have HB1 : Hid (Below wr.heap.size wr (wr.alloc (.cells #[.int .i64 (x : Int), .int .i64 (y : Int)] 201))) := (Below.refl _ _).alloc (Nat.le_refl _) _
     have HG1 := hid (duo_new wr 201 (.int .i64 (x : Int)) (.int .i64 (y : Int)))
     have hBr : B < wr.heap.size := Nat.lt_of_lt_of_le (by omega) hC.out.2.1.size
     have hwB : w.heap.size < B := by have := HOW.out.hG; have := HOW.out.hO; omega
     go_wp2_with fail
     generalize wr.alloc (.cells #[.int .i64 (x : Int), .int .i64 (y : Int)] 201) = V1 at *
     have hzV : wr.heap.size < V1.heap.size := HG1.out.lt
     have HWg : Hid (∀ W, V1.grownBy W (some B) -> Below w.heap.size w W /\ W.rowIs wr.heap.size 201 2 (duo (.int .i64 (x : Int)) (.int .i64 (y : Int))) /\ WlkAt W (B + 1) B s /\ SpgAt W s b q n d) := fun W hW => by
      have hbw := (HOW.out.below.trans (HB1.out.mono HOW.out.below.size)).grown hW (by omega) (fun k e => by cases e; omega)
      refine ⟨hbw, HG1.out.of_block (gb_blk hW hzV (by omega)), ?_, HSP.out.keep hbw⟩
      have e1 : wr.heap[B + 1]? = w8.heap[B + 1]? := hC.out.2.1.block _ (by omega) (by omega) (by omega)
      have e2 : V1.heap[B + 1]? = wr.heap[B + 1]? := HB1.out.block _ (by have := hC.out.2.1.size; omega)
      exact HWL8.out.block ((gb_blk hW (by have := hC.out.2.1.size; omega) (by omega)).trans (e2.trans e1))
     have HPV : Hid (Pair O B w8 V1) := pair_bl hC.out.2.1 (HB1.out.mono hC.out.2.1.size) (by omega)
     have HOV1 := hid (hC.out.1.of_block (HB1.out.block _ hC.out.1.lt))
     have HOR1 := hid (hC.out.2.2.2.keep HB1.out)
     have HMV : Hid (∃ M, MapIs V1 B M /\ Snd M (DR q n rows)) := by
      obtain ⟨M, hM, hS⟩ := hC.out.2.2.1
      exact ⟨M, hM.below HB1.out hBr, hS⟩
     clear hC HB1 HG1 HOW c1 c2
     generalize wr.heap.size = E at *
     go_loopw [76] (fun iv wu => ∃ i : Nat, i <= m /\ iv = .int .i64 i /\ Hid (V1.grownBy wu (some B) /\ ∃ M, MapIs wu B M /\ Snd M (DR q n rows) /\ ∀ z, x <= z -> z < x + i -> M z (z + 1) ≠ none)) (fun iv _ => m - (intOf iv).toNat)
     case atStart =>
      obtain ⟨M, hM, hS⟩ := HMV.out
      exact ⟨0, Nat.zero_le _, rfl, gb_refl _ _, M, hM, hS, fun z h1 h2 => by omega⟩
     case round =>
      obtain ⟨i, hi, rfl, hD⟩ := hrel
      obtain ⟨hbw, hgE, hwk, hsp⟩ := HWg.out wr hD.out.1
      by_cases hil : i < m
      ·have hil2 : (i : Int) < (m : Int) := by omega
       have hks' : IntKind.i64.wrap ((i : Int) + 1) = (i : Int) + 1 := by rw [IntKind.wrap_i64]; omega
       obtain ⟨z, hz⟩ := exE (x + i)
       have hzN : z < rows.length := by omega
       have hwz : IntKind.i64.wrap ((x : Int) + (i : Int)) = (z : Int) := by rw [IntKind.wrap_i64]; omega
       obtain ⟨b2, o2, ak, ck, hae, hb2, hc2, hlk⟩ := HLR.out.row z hzN
       simp only [Option.some.injEq, Addr.mk.injEq] at hae
       obtain ⟨rfl, rfl, _⟩ := hae
       have hcz := (hbw.cell (p := ⟨br, orr + z, none⟩) hb2).trans hc2
       rw [hz, <- Nat.add_assoc] at hcz
       have gE0 := hgE.cell (i := 0) (by omega)
       have gE1 := hgE.cell (i := 1) (by omega)
       simp only [duo] at gE0 gE1
       have HSE : Hid (Calls Tryz.prog 162 #[.pointer (some ⟨B + 1, 0, none⟩), .int .i64 (z : Int), .slice ak (rat rows z).length ck] wr fun e w' => e = .returned (.tuple #[]) /\ Hid (V1.grownBy w' (some B) /\ ∃ M, MapIs w' B M /\ Snd M (DR q n rows) /\ ∀ z', x <= z' -> z' < x + (i + 1) -> M z' (z' + 1) ≠ none)) := by
        obtain ⟨M, hM, hS, hF⟩ := hD.out.2
        have hf := HFR.out z hzN
        refine (seerow_any q n d b s (B + 1) B ck z ak (rat rows z) M wr HOK.out hsp hwk hM (by omega) (by have := hf.2; omega) hf.1 ((hlk.below hbw).mono hbw.size)).mono ?_
        rintro e w' ⟨rfl, hM', hg⟩
        refine ⟨rfl, gb_trans hD.out.1 hg, _, hM', fun a' b' d' h => ?_, fun z' h1 h2 => ?_⟩
        ·by_cases hab : a' = z /\ b' = z + 1
         ·rw [hab.1, hab.2, upd_same] at h
          injection h with h
          rw [hab.1, hab.2, DR_leaf hzN, h]
         ·rw [upd_other hab] at h
          exact hS _ _ _ h
        ·by_cases hzz : z' = z
         ·rw [hzz, upd_same]
          simp
         ·rw [upd_other (by omega)]
          exact hF z' h1 (by omega)
       obtain ⟨lz, hlz⟩ := exE ((rat rows z).length)
       rw [<- hz, <- hlz] at hcz
       rw [<- hlz, show (z : Int) = (x : Int) + (i : Int) by omega] at HSE
       clear hc2 hlk hlz hbw hgE hwk hsp hD gE1
       go_wp2_with fail
       refine HSE.out.mono ?_
       rintro e w9 ⟨rfl, HE⟩
       go_wp2_with fail
       go_roundw
       case rel => exact ⟨i + 1, by omega, by go_num, HE⟩
       case measure => simp [intOf]; omega
      ·obtain rfl : i = m := by omega
       have HRT : Hid (Calls Tryz.prog 163 #[.pointer (some ⟨B + 1, 0, none⟩), .agg #[.int .i64 (x : Int), .int .i64 (y : Int)]] wr fun e w' => e = .returned (d4 (DR q n rows x y)) /\ Hid (V1.grownBy w' (some B) /\ ∃ M, MapIs w' B M /\ Snd M (DR q n rows))) := by
        obtain ⟨M, hM, hS, hF⟩ := hD.out.2
        have hr := wroot_any q n d b s (B + 1) B (DR q n rows) M HOK.out (DR_dgst h3 n rows) (rdy_rows (y - x) x y (Nat.le_refl _) hxy hyN (fun z h1 h2 => hF z h1 (by omega))) hxy2 (by omega) M wr hsp hwk hM (fun _ _ h => h) hS
        unfold gk at hr
        refine hr.mono ?_
        rintro e w' ⟨rfl, ⟨M', g1, g2, _⟩, hg⟩
        exact ⟨by rw [an4]; rfl, gb_trans hD.out.1 hg, M', g1, g2⟩
       have gE0 := hgE.cell (i := 0) (by omega)
       have gE1 := hgE.cell (i := 1) (by omega)
       simp only [duo] at gE0 gE1
       clear hbw hgE hwk hsp hD
       go_wp2_with fail
       refine HRT.out.mono ?_
       unfold d4
       rintro e w9 ⟨rfl, hD9⟩
       obtain ⟨dg, hdg⟩ := exE (DR q n rows x y)
       have HDG := hid hdg
       rw [<- hdg]
       rw [<- hdg] at HSN
       clear hdg gE0 gE1 HRT
       have HAr : Hid (ArrI (w9.alloc (.cells #[.int .i64 (zat dg 0), .int .i64 (zat dg 1), .int .i64 (zat dg 2), .int .i64 (zat dg 3)] 213)) w9.heap.size 213 4 (zat dg)) := ArrI.new w9 4 213 (zat dg)
       have HBA : Hid (Below w9.heap.size w9 (w9.alloc (.cells #[.int .i64 (zat dg 0), .int .i64 (zat dg 1), .int .i64 (zat dg 2), .int .i64 (zat dg 3)] 213))) := (Below.refl _ _).alloc (Nat.le_refl _) _
       go_wp2_with fail
       generalize w9.alloc (.cells #[.int .i64 (zat dg 0), .int .i64 (zat dg 1), .int .i64 (zat dg 2), .int .i64 (zat dg 3)] 213) = W9 at *
       have hP9 := pair_gb HPV.out hD9.out.1
       have hOV := HOV1.out.lt
       have hBV : B < V1.heap.size := by obtain ⟨M, hM, _⟩ := HMV.out; exact hM.lt
       have HO9 := hid ((HOV1.out.of_block (gb_blk hD9.out.1 hOV (by omega))).of_block (HBA.out.block _ (Nat.lt_of_lt_of_le hOV hD9.out.1.size)))
       have HNV : Hid (NotC V1 B) := fun c t' f e => by
        obtain ⟨M, ⟨es, cl, h0, _⟩, _⟩ := HMV.out
        rw [h0] at e
        cases e
       have HPVw : Hid (Pair O B V1 w9) := pair_gb (Pair.refl _ _ _) hD9.out.1
       have HOR9 := hid ((HOR1.out.pair (rowO HOV1.out) (.inr HNV.out) HPVw.out).keep HBA.out)
       have HP9 : Hid (Pair O B w8 W9) := pair_bl hP9 (HBA.out.mono hP9.size) HBA.out.size
       have HM9 : Hid (∃ M, MapIs W9 B M /\ Snd M (DR q n rows)) := by
        obtain ⟨M, h1, h2⟩ := hD9.out.2
        exact ⟨M, h1.below HBA.out h1.lt, h2⟩
       have hdl : dg.length = 4 := by rw [HDG.out]; exact (DR_dgst h3 n rows x y).1
       have hb30 : Below W9.heap.size W9 W9.drew := (Below.refl _ _).drew
       have HSd : Hid (SlR W9.drew dg (.slice (some ⟨w9.heap.size, 0, none⟩) 4 4)) := (slr_arr HAr.out hdl (fun j _ => rfl) (by decide) (by decide) (by decide) (by decide) (by decide) (by decide)).keep hb30
       have hz9 := HP9.out.size
       obtain ⟨v10, w10, hrun, ho10, hb10, hn10, hx10, hz10⟩ := run_row1 W9.drew w8.heap.size _ _ _ _ (HOR9.out.keep hb30) HSd.out (by rw [HTL.out]; omega) hz9
       rw [<- HSN.out] at ho10
       obtain ⟨a10, c10, e10, _⟩ := ho10.lst
       have hl10 : (((hd2 os rows.length 0 rows.length).take (t + 1)).map (fun g => DR q n rows g.1 g.2)).length = t + 1 := by rw [List.length_map, List.length_take, <- HHL.out]; omega
       rw [hl10] at e10
       subst e10
       have hO10 : O < W9.drew.heap.size := HO9.out.lt
       have dO := (HO9.out.of_block (hb30.block _ HO9.out.lt)).of_block (hb10.block O HO8.out.lt)
       have hco := dO.cell (i := 2) (by omega)
       have hfo := dO.frozen 2
       have HE : Hid ((w10.setCell ⟨O, 2, none⟩ (.slice a10 (t + 1) c10)).rowIs O 31 3 (tri (.slice ao os.length co) (.slice ar os.length cr) (.slice a10 (t + 1) c10)) /\ Pair O B w8 (w10.setCell ⟨O, 2, none⟩ (.slice a10 (t + 1) c10)) /\ (∃ M, MapIs (w10.setCell ⟨O, 2, none⟩ (.slice a10 (t + 1) c10)) B M /\ Snd M (DR q n rows)) /\ OwnR w8.heap.size (w10.setCell ⟨O, 2, none⟩ (.slice a10 (t + 1) c10)) (.slice a10 (t + 1) c10) (((hd2 os rows.length 0 rows.length).take (t + 1)).map (fun g => DR q n rows g.1 g.2))) := by
        refine ⟨tri_set2 dO _, (pair_bl (HP9.out.drew) hb10 hz10).setCell (p := ⟨O, 2, none⟩) (.inl rfl) _, ?_, ho10.setO (rowO dO)⟩
        obtain ⟨M, h1, h2⟩ := HM9.out
        refine ⟨M, h1.block ?_, h2⟩
        rw [Below.heap_setCell _ _ _ _ (by show B ≠ O; omega)]
        exact (hb10.block B (by omega)).trans (hb30.block B h1.lt)
       have HKe : Hid (∀ W, Below W9.heap.size W9 W -> W.cell? ⟨O, 2, none⟩ = some (.slice an' t cn)) := fun W h => (h.cell (p := ⟨O, 2, none⟩) HO9.out.lt).trans (HO9.out.cell (i := 2) (by omega))
       simp only [tri] at hco
       clear hP9 ho10 hb10 hn10 hx10 dO hl10 hD9
       refine wp_region_S (C := fun W => Below W9.heap.size W9 W) (st := [4, 6]) hmx ?_
       show wpAnyS _ _ _ _ _ _ 7 (Array.replicate 7 false) _ _
       refine wpAnyS_pure (i := 0) (v := .pointer (some ⟨O, 2, none⟩)) rfl (by kernel_rfl) (by kernel_rfl) (by kernel_rfl) (by kernel_rfl) (fun _ _ _ h => h) (Or.inl ⟨by rfl, fun W _ => ?_⟩) (fun _ => hb30) ?_
       ·go_simp
       refine wpAnyS_take (i := 1) (v := .slice an' t cn) rfl (by kernel_rfl) (by kernel_rfl) (by kernel_rfl) (by kernel_rfl) (by kernel_rfl) (by kernel_rfl) (fun _ _ _ h => h) (Or.inl ⟨by rfl, fun W hC => ?_⟩) hb30 ?_
       ·have q0 := HKe.out W hC
        go_simp
       refine wpAnyS_pure (i := 2) (v := .slice (some ⟨w9.heap.size, 0, none⟩) 4 4) rfl (by kernel_rfl) (by kernel_rfl) (by kernel_rfl) (by kernel_rfl) (fun _ _ _ h => h) (Or.inl ⟨by rfl, fun W _ => ?_⟩) (fun _ => hb30) ?_
       ·go_simp
       refine wpAnyS_one (i := 3) (by kernel_rfl) ?_
       refine wpOp_step rfl (fun K' hK' => ?_)
       rw [if_pos (by rfl)]
       go_simp
       refine hK' _ _ ⟨fun _ => hb30.alloc hb30.size _, ?_⟩
       clear hK' K'
       refine wpAnyS_one (i := 4) (by kernel_rfl) ?_
       refine wpOp_step rfl (fun K' hK' => ?_)
       rw [if_pos (by rfl)]
       refine wp_append_run _ _ _ _ rfl rfl _ _ _ _ hrun rfl rfl ?_
       refine hK' _ _ ⟨fun h => absurd (h 4 (by simp)) (by decide), ?_⟩
       clear hK' K'
       refine wpAnyS_one (i := 5) (by kernel_rfl) ?_
       refine wpOp_step rfl (fun K' hK' => ?_)
       rw [if_pos (by rfl)]
       go_simp
       refine hK' _ _ ⟨fun h => absurd (h 4 (by simp)) (by decide), ?_⟩
       clear hK' K'
       refine wpAnyS_one (i := 6) (by kernel_rfl) ?_
       refine wpOp_step rfl (fun K' hK' => ?_)
       rw [if_pos (by rfl)]
       go_simp
       refine hK' _ _ ⟨fun h => absurd (h 4 (by simp)) (by decide), wpAnyS_done (by kernel_rfl) ?_ _⟩
       clear hK' K'
       go_wp2_with fail
       go_roundw
       case rel => exact ⟨t + 1, a10, c10, by omega, by go_num, HE⟩
       case measure => simp [intOf]; omega
    ·obtain rfl : t = hl := by omega
     have hEE := hC.out
     have hEE2 := hEE.2.2.2
     rw [show (hd2 os rows.length 0 rows.length).take t = hd2 os rows.length 0 rows.length from by rw [HHL.out, List.take_length], <- ndf_all q n rows os h1] at hEE2
     have HC2 := hid hEE2
     have hnl : (ndf q n rows.length rows os 0).length = t := by rw [ndf_all q n rows os h1, List.length_map, <- HHL.out]
     have HR := hid HOW.out.res
     have k0 := hC.out.1.cell (i := 0) (by omega)
     have k1 := hC.out.1.cell (i := 1) (by omega)
     have k2 := hC.out.1.cell (i := 2) (by omega)
     simp only [tri] at k0 k1 k2
     have r0 := HR.out.cell (i := 0) (by omega)
     have r1 := HR.out.cell (i := 1) (by omega)
     have r2 := HR.out.cell (i := 2) (by omega)
     have y0 := HR.out.frozen 0
     have y1 := HR.out.frozen 1
     have y2 := HR.out.frozen 2
     have HVR := hid (HOR8.out.pair HOW8.out.isO (.inr HNB.out) hC.out.2.1)
     clear hC hEE hEE2
     go_wp2_with fail
     have HF := hid (tri_arr (tri_set2 (tri_set1 (tri_set0 HR.out (.slice ao os.length co)) (.slice ar os.length cr)) (.slice an' t cn)))
     refine bodyPost_ret (results_ct rfl _ _ w.heap.size 31 _ (0, 0) _ rfl HF.out Tryz.underlying31 rfl (by kernel_rfl)) rfl ?_
     have i0 := rowO HR.out
     have i1 := rowO (tri_set0 HR.out (.slice ao os.length co))
     have i2 := rowO (tri_set1 (tri_set0 HR.out (.slice ao os.length co)) (.slice ar os.length cr))
     have hsl := shw_len q rows os
     have hw8 : w.heap.size <= w8.heap.size := HOW8.out.below.size
     have hw6 : w.heap.size <= W6.heap.size := HOB.out.below.size
     refine ⟨os, ao, ar, an', co, cr, cn, by rw [hsl, hnl]; rfl, HOS.out, ((HOW.out.places.setO i0).setO i1).setO i2, ?_, ?_, ((HOW.out.below.setCell (p := ⟨w.heap.size, 0, none⟩) (Nat.le_refl _) _).setCell (p := ⟨w.heap.size, 1, none⟩) (Nat.le_refl _) _).setCell (p := ⟨w.heap.size, 2, none⟩) (Nat.le_refl _) _⟩
     ·rw [hsl]
      exact ((((HVR.out).setO i0).setO i1).setO i2).mono hw6
     ·rw [hnl]
      exact (((HC2.out.setO i0).setO i1).setO i2).mono hw8
theorem once_nil {os : List Int} (h : OnceIs [] os) : os = [] := by
 cases os with
 | nil => rfl
 | cons x l => exact absurd ((h.2 x).1 (by simp)) (by simp)
theorem ndf_nil (q n : Nat) (rows : List (List Int)) (h : 1 <= rows.length) : ndf q n rows.length rows [] 0 = [rtf q n rows.length rows] := by
 obtain ⟨k, hk⟩ : ∃ k, rows.length = k + 1 := ⟨rows.length - 1, by omega⟩
 rw [hk, ndf, if_pos (by simp [smb])]
theorem half_two (v : Nat) : 2 ^ v = 2 ^ (v - v / 2) * 2 ^ (v / 2) := by
 rw [<- Nat.pow_add]
 congr 1
 omega
def ctz (q n : Nat) (s r : Int) (N v : Nat) (t : List Int) : List Int := rtf q n N (cll q s r N (rwl (2 ^ (v - v / 2)) (2 ^ (v / 2)) t))
theorem some_of_lst {n0 : Nat} {w : World} {a : Option Addr} {c : Nat} {t : List Int} (h : Lst n0 w a c t) (h0 : 0 < t.length) : ∃ ap o, a = some ⟨ap, o, none⟩ := by
 obtain ⟨b, o, e, _⟩ := h.row 0 h0
 exact ⟨b, o, e⟩
section
variable {P : Program} {ops : Array Oper} {Q : Exit -> Act -> World -> Prop} {md : Region.Mode} {S : World -> Prop}
theorem drop_atU {i : Nat} {oi : Oper} {rest : List Oper} (hl : ops.toList.drop i = oi :: rest) : ops[i]? = some oi := by
 have := congrArg (fun l => l[0]?) hl
 simpa [List.getElem?_drop] using this
theorem wpAnyH_takeU {i : Nat} {oi : Oper} {rest : List Oper} {v : Value} {fuel : Nat} {listed : Array Bool} {a : Act} {w : World} (hl : ops.toList.drop i = oi :: rest)
  (hs : Region.noSelect ops = true) (hf : Region.free md ops listed i = true) (hr : (Region.ready md ops listed).contains i = true)
  (hQ : ∀ c a w, Q (.panic c) (a.put oi.dst v) w -> Q (.panic c) a w) (hw : Region.wanted oi (yielded ops a.tmps) = true) (hy : ∀ w, S w -> (execOp a.eval oi).run P w = .ok (.value v) w) (hS : S w)
  (h : wpAnyH P md ops Q S fuel (listed.setIfInBounds i true) (a.put oi.dst v) w) : wpAnyH P md ops Q S (fuel + 1) listed a w :=
 wpAnyH_take (drop_atU hl) hs hf hr hQ (Or.inl ⟨hw, hy⟩) hS h
theorem tkU (i : Nat) (v : Value) {oi : Oper} {rest : List Oper} {fuel : Nat} {listed : Array Bool} {a : Act} {w : World} (hl : ops.toList.drop i = oi :: rest) (hy : ∀ w, S w → (execOp a.eval oi).run P w = .ok (.value v) w) (hS : S w) (h : wpAnyH P md ops Q S fuel (listed.setIfInBounds i true) (a.put oi.dst v) w)
 (hs : Region.noSelect ops = true := by kernel_rfl) (hf : Region.free md ops listed i = true := by kernel_rfl) (hr : (Region.ready md ops listed).contains i = true := by kernel_rfl) (hQ : ∀ c a w, Q (.panic c) (a.put oi.dst v) w → Q (.panic c) a w := by exact fun _ _ _ h => h) (hw : Region.wanted oi (yielded ops a.tmps) = true := by rfl) : wpAnyH P md ops Q S (fuel + 1) listed a w :=
 wpAnyH_takeU hl hs hf hr hQ hw hy hS h
theorem AllReadyH.consU {fuel : Nat} {listed : Array Bool} {a : Act} {w : World} {i : Nat} {o : Oper} {rest : List Oper} {rs : List Nat} (hl : ops.toList.drop i = o :: rest)
  (h : ∀ K' : Act -> World -> Prop, Shut (∀ a w, S w -> (S w -> wpAnyH P md ops Q S fuel (listed.setIfInBounds i true) a w) -> K' a w) -> if Region.wanted o (yielded ops a.tmps) = true then Oper.wp P o a w K' Q else K' (a.put o.dst undef) w)
  (hs : AllReadyH P md ops Q S fuel listed a w rs) : AllReadyH P md ops Q S fuel listed a w (i :: rs) := AllReadyH.cons (drop_atU hl) h hs
end
theorem rg_appendU {o : Oper} {a : Act} {w w2 : World} {K : Act -> World -> Prop} {Q : Exit -> Act -> World -> Prop} (s x : Operand) (tS tX : TypeId)
  (ho : o.op = .call { callee := .builtin .append, args := #[s, x], argTypes := #[tS, tX] }) (v u r : Value) (hs : a.eval s = v) (hx : a.eval x = u) (hrun : (Builtin.append_ #[tS, tX] o.type #[v, u]).run Tryz.prog w = .ok r w2)
  (h : K (a.put o.dst r) w2) : Oper.wp Tryz.prog o a w K Q := by
 unfold Oper.wp
 simp [execOp, ho, resolve, invoke, builtin, hs, hx, hrun, Result.andThen]
 exact h
section
variable {P : Program} {ops : Array Oper} {Q : Exit -> Act -> World -> Prop} {md : Region.Mode} {S : World -> Prop}
theorem wpAnyH_skipV {i : Nat} {oi : Oper} {rest : List Oper} {fuel : Nat} {listed : Array Bool} {a : Act} {w : World} (hl : ops.toList.drop i = oi :: rest)
  (hs : Region.noSelect ops = true) (hf : Region.free md ops listed i = true) (hr : (Region.ready md ops listed).contains i = true)
  (hQ : ∀ c a w, Q (.panic c) (a.put oi.dst undef) w -> Q (.panic c) a w) (hw : Region.wanted oi (yielded ops a.tmps) = false) (hS : S w)
  (h : wpAnyH P md ops Q S fuel (listed.setIfInBounds i true) (a.put oi.dst undef) w) : wpAnyH P md ops Q S (fuel + 1) listed a w :=
 wpAnyH_take (drop_atU hl) hs hf hr hQ (Or.inr ⟨hw, rfl⟩) hS h
end
end Go.Proofs.YtlhjifpomchnfaaGreatDoor
