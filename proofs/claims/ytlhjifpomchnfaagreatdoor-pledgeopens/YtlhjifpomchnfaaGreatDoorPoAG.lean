
import Derived.Test.YtlhjifpomchnfaaGreatDoorTrgs
import Derived.Test.YtlhjifpomchnfaaGreatDoorPoAA
import Derived.Test.YtlhjifpomchnfaaGreatDoorHeldS
import Derived.Below
set_option maxRecDepth 1000000
set_option maxHeartbeats 8000000
namespace Go.Proofs.YtlhjifpomchnfaaGreatDoor
open Go.RowKit
theorem flat_snoc {rows : List (List Int)} {k : Nat} (h : k < rows.length) : (rows.take (k + 1)).flatten = (rows.take k).flatten ++ rat rows k := by
 have e : rows.take (k + 1) = rows.take k ++ [rat rows k] := by
  rw [List.take_add_one, List.getElem?_eq_getElem h]
  unfold rat
  rw [List.getD_eq_getElem?_getD, List.getElem?_eq_getElem h]
  rfl
 rw [e, List.flatten_append]
 simp
theorem flat_le {rows : List (List Int)} (k : Nat) : (rows.take k).flatten.length <= rows.flatten.length := by
 have := congrArg (fun l => (List.flatten l).length) (List.take_append_drop k rows)
 simp only [List.flatten_append, List.length_append] at this
 omega
theorem hidK {α β : Type} {A B : α -> β -> Prop} {C : α -> β -> Prop} (h : ∀ x y, Hid (A x y) -> B x y -> C x y) : ∀ x y, A x y -> B x y -> C x y := fun x y a b => h x y a b
theorem joined_any (mark : Int) (cap : Nat) (a : Option Addr) (rows : List (List Int)) (w : World) (hlen : rows.flatten.length <= 17592186044300) (hrl : rows.length <= 17592186044300) (hl : LstR w.heap.size w a cap rows) :
  Calls Tryz.prog 244 #[.int .i64 mark, .slice a rows.length cap] w fun e w' => ∃ v, e = .returned v /\ w'.ownsRow w.heap.size 3 1 v (mark :: rows.flatten).length ((mark :: rows.flatten).map (Value.int .i64)) /\ Below w.heap.size w w' := by
 have HL := hid hl
 have HFL := hid hlen
 clear hl hlen
 have HO := hid (owns_one w mark)
 have HBA : Hid (Below w.heap.size w (w.alloc (.cells #[.int .i64 mark] 3))) := (Below.refl _ _).alloc (Nat.le_refl _) _
 obtain ⟨m, hm⟩ := exE (rows.length)
 rw [<- hm] at hrl ⊢
 have HM := hid hm
 clear hm
 go_enter Tryz.func244, Tryz.ntmps244
 go_wp2_with fail
 go_loopw [5, 12] (fun v iv wr => ∃ k : Nat, k <= m /\ iv = .int .i64 k /\ Hid (wr.ownsRow w.heap.size 3 1 v (mark :: (rows.take k).flatten).length ((mark :: (rows.take k).flatten).map (Value.int .i64)) /\ Below w.heap.size w wr))
  (fun _ iv _ => m - (intOf iv).toNat)
 case atStart =>
  exact ⟨0, by omega, rfl, HO.out, HBA.out⟩
 case round =>
  obtain ⟨k, hk, rfl, hC⟩ := hrel
  by_cases hlt : k < m
  ·have hlt2 : (k : Int) < (m : Int) := by omega
   have hks : IntKind.i64.wrap ((k : Int) + 1) = (k : Int) + 1 := by rw [IntKind.wrap_i64]; omega
   obtain ⟨bl, ol, ak, ck, rfl, hbl', hcl, hlk⟩ := HL.out.row k (by rw [<- HM.out]; exact hlt)
   have hcl2 := (hC.out.2.cell (p := ⟨bl, ol + k, none⟩) hbl').trans hcl
   have HLK := hid (hlk.below hC.out.2)
   have HLE : Hid ((mark :: (rows.take k).flatten).length + (rat rows k).length <= 17592186044416) := by
    have e1 := flat_snoc (rows := rows) (k := k) (by rw [<- HM.out]; exact hlt)
    have e2 := flat_le (rows := rows) (k + 1)
    have e3 := HFL.out
    rw [e1, List.length_append] at e2
    show _ + 1 + _ <= _
    omega
   have HSN : Hid (mark :: (rows.take (k + 1)).flatten = (mark :: (rows.take k).flatten) ++ rat rows k) := by unfold Hid; rw [flat_snoc (by rw [<- HM.out]; exact hlt)]; rfl
   obtain ⟨Z, hZ⟩ := exE (mark :: (rows.take k).flatten)
   obtain ⟨Y, hY⟩ := exE (rat rows k)
   rw [<- hZ, <- hY] at HSN HLE
   rw [<- hZ] at hC
   rw [<- hY] at HLK hcl2
   clear hcl hbl' hlk hZ hY
   go_wp2_with (at_builtin; refine wpList_appendL wr w.heap.size w.heap.size rfl _ _ rfl _ rfl _ _ hC.out.1 _ _ rfl HLE.out hC.out.2.size HLK.out ?_; refine hidK ?_)
   intro v' w2 HOW hb2
   have HE : Hid (w2.ownsRow w.heap.size 3 1 v' (mark :: (rows.take (k + 1)).flatten).length ((mark :: (rows.take (k + 1)).flatten).map (Value.int .i64)) /\ Below w.heap.size w w2) := by
    unfold Hid
    rw [HSN.out, List.length_append, List.map_append]
    exact ⟨HOW.out, hC.out.2.trans hb2⟩
   clear HOW hb2
   go_wp2_with fail
   go_roundw
   case rel => exact ⟨k + 1, by omega, by go_num, HE⟩
   case measure => simp [intOf]; omega
  ·obtain rfl : k = m := by omega
   have HT : Hid (rows.take k = rows) := by unfold Hid; rw [HM.out, List.take_length]
   have HE := hC
   rw [HT.out] at HE
   clear hC
   go_wp2_with fail
   go_ret
   exact ⟨_, rfl, HE.out⟩
theorem an4 (f : Nat -> Int) : an 4 f = #[.int .i64 (f 0), .int .i64 (f 1), .int .i64 (f 2), .int .i64 (f 3)] := rfl
theorem arr4_set {W : World} {g : Nat} {t : TypeId} {f : Nat -> Int} (h : ArrI W g t 4 f) (G : Nat -> Int) : ArrI ((((W.setCell ⟨g, 0, none⟩ (.int .i64 (G 0))).setCell ⟨g, 1, none⟩ (.int .i64 (G 1))).setCell ⟨g, 2, none⟩ (.int .i64 (G 2))).setCell ⟨g, 3, none⟩ (.int .i64 (G 3))) g t 4 G :=
 ((((h.set 0 (G 0)).set 1 (G 1)).set 2 (G 2)).set 3 (G 3)).congr (fun j hj => by
  have : j = 0 ∨ j = 1 ∨ j = 2 ∨ j = 3 := by omega
  rcases this with rfl | rfl | rfl | rfl <;> rfl)
theorem whash_any (q n d b s g B cap : Nat) (mark : Int) (a : Option Addr) (rows : List (List Int)) (w : World) (ok : SpgOk q n d) (hs : SpgAt w s b q n d) (hw : WlkAt w g B s) (hlen : rows.flatten.length <= 17592186044300) (hrl : rows.length <= 17592186044300) (hfit : Fits (mark :: rows.flatten)) (hl : LstR w.heap.size w a cap rows) :
  Calls Tryz.prog 207 #[.pointer (some ⟨g, 0, none⟩), .int .i64 mark, .slice a rows.length cap] w fun e w' => e = .returned (.agg (an 4 (zat (digl q n (mark :: rows.flatten))))) /\ Below w.heap.size w w' := by
 have h3 : 3 <= q := by have := ok.h23; omega
 have hm := ok.hm
 have HOK := hid ok
 have HS := hid hs
 have HW := hid hw
 have HFT := hid hfit
 have HL := hid hl
 have HLE := hid hlen
 have hgl := hw.lt
 obtain ⟨L, hL⟩ := exE (mark :: rows.flatten)
 rw [<- hL]
 have HLQ := hid hL
 clear ok hs hw hfit hl hlen hL
 go_enter Tryz.func207, Tryz.ntmps207
 go_wp2_with fail
 have HA0 := hid (ArrI.new w 4 213 (fun _ => 0))
 rw [an4] at HA0
 have HB0 : Hid (Below w.heap.size w (w.alloc (.cells #[.int .i64 0, .int .i64 0, .int .i64 0, .int .i64 0] 213))) := (Below.refl _ _).alloc (Nat.le_refl _) _
 generalize w.alloc (.cells #[.int .i64 0, .int .i64 0, .int .i64 0, .int .i64 0] 213) = W0 at *
 have hL := HLQ.out
 have HLL : Hid (L.length <= 17592186044400) := by unfold Hid; rw [hL]; simp only [List.length_cons]; have := HLE.out; omega
 have HFL : Hid (Fits L) := by unfold Hid; rw [hL]; exact HFT.out
 have hne : w.heap.size ≠ g := by omega
 have HFI : Hid (∀ W, Below W0.heap.size W0 W -> Calls Tryz.prog 19 #[.pointer (some ⟨s, 0, none⟩)] W fun e w' => e = .returned (.pointer (some ⟨b, 0, none⟩)) /\ w' = W) := fun W h => sfield_any q n d b s W ((HS.out.keep HB0.out).keep h)
 have HJ : Hid (∀ W, Below W0.heap.size W0 W -> Calls Tryz.prog 244 #[.int .i64 mark, .slice a rows.length cap] W fun e w' => ∃ v, e = .returned v /\ Hid (w'.ownsRow W.heap.size 3 1 v L.length (L.map (Value.int .i64))) /\ Below W0.heap.size W0 w') := fun W h => by
  have hb := HB0.out.trans (h.mono HB0.out.size)
  refine (joined_any mark cap a rows W HLE.out hrl ((HL.out.below hb).mono hb.size)).mono ?_
  rintro e w' ⟨v, rfl, h1, h2⟩
  rw [<- hL] at h1
  exact ⟨v, rfl, h1, h.trans (h2.mono h.size)⟩
 have HH : Hid (∀ (W : World) (v : Value) (bs : Nat), Hid (W.ownsRow bs 3 1 v L.length (L.map (Value.int .i64))) -> Below W0.heap.size W0 W -> Calls Tryz.prog 77 #[.pointer (some ⟨s, 0, none⟩), v] W fun e w' => ∃ x : Nat, e = .returned (.slice (some ⟨x, 0, none⟩) 4 4) /\ Hid (RowB w'.heap.size w' (some ⟨x, 0, none⟩) (digl q n L)) /\ Below W0.heap.size W0 w') := fun W v bs h0 h => by
  obtain ⟨a2, c2, rfl, hl2⟩ := lst_of_owns h0.out
  refine (shash_any q n d b s L.length c2 a2 (zat L) W HOK.out ((HS.out.keep HB0.out).keep h) HLL.out (fun j _ => HFL.out.all j) (fun j hj => hl2.row j hj)).mono ?_
  rintro e w' ⟨rfl, h1, h2⟩
  refine ⟨_, rfl, ?_, h.trans (h2.mono h.size)⟩
  intro j hj
  rw [digl_len] at hj
  refine ⟨_, 0, rfl, h1.lt, ?_⟩
  rw [Nat.zero_add, h1.cell (by omega)]
  unfold digl
  rw [ls_at _ _ _ hj]
 have HD : Hid (∀ (W : World) (x : Nat), Hid (RowB W.heap.size W (some ⟨x, 0, none⟩) (digl q n L)) -> Below W0.heap.size W0 W -> Calls Tryz.prog 218 #[.pointer (some ⟨b, 0, none⟩), .slice (some ⟨x, 0, none⟩) 4 4] W fun e w' => e = .returned (.agg (an 4 (zat (digl q n L)))) /\ Below W0.heap.size W0 w') := fun W x h0 h => by
  refine (digestof_any q b 4 (some ⟨x, 0, none⟩) (digl q n L) W h3 hm ((HS.out.keep HB0.out).keep h).p (digl_len _ _ _) (digl_fits h3 hm n L) h0.out).mono ?_
  rintro e w' ⟨rfl, h2⟩
  refine ⟨?_, h.trans (h2.mono h.size)⟩
  rw [an_congr (g := zat (digl q n L))]
  intro j hj
  have := congrArg (fun l => zat l j) (elr_digl h3 n L)
  simp only [elr] at this
  rw [ls_at _ _ _ (by rw [digl_len]; exact hj)] at this
  exact this
 have hKeep : ∀ W, Below W0.heap.size W0 W -> W.cell? ⟨g, 0, none⟩ = some (.pointer (some ⟨s, 0, none⟩)) := fun W h => (h.cell (p := ⟨g, 0, none⟩) (by have := HB0.out.size; show g < _; omega)).trans ((HB0.out.cell (p := ⟨g, 0, none⟩) hgl).trans HW.out.c0)
 have HK := hid hKeep
 have HE : Hid (∀ W, Below W0.heap.size W0 W -> ArrI W w.heap.size 213 4 (fun _ => 0)) := fun W h => HA0.out.block (h.block _ HA0.out.lt)
 have hb00 : Below W0.heap.size W0 W0.drew := (Below.refl _ _).drew
 clear hKeep hL HLQ HFT HL HLE HW HOK HS HFL HLL
 go_region_held3 (fun w' => w'.cell? ⟨g, 0, none⟩ = some (.pointer (some ⟨s, 0, none⟩))) (first | exact HK.out _ (by assumption) | go_keep)
  (first
   | (go_at_call 19; refine (HFI.out _ (by assumption)).mono ?_; rintro e w' ⟨rfl, rfl⟩)
   | (go_at_call 244; refine (HJ.out _ (by assumption)).mono ?_; rintro e w' ⟨v, rfl, hown, hbj⟩)
   | (go_at_call 77; refine (HH.out _ _ _ (by assumption) (by assumption)).mono ?_; rintro e w' ⟨x, rfl, hrowx, hbh⟩)
   | (go_at_call 218; refine (HD.out _ _ (by assumption) (by assumption)).mono ?_; rintro e w' ⟨rfl, hbd⟩; rw [an4]; have y0 := (HE.out _ hbd).frozen 0; have y1 := (HE.out _ hbd).frozen 1; have y2 := (HE.out _ hbd).frozen 2; have y3 := (HE.out _ hbd).frozen 3; have z0 := (HE.out _ hbd).cell (i := 0) (by decide); have z1 := (HE.out _ hbd).cell (i := 1) (by decide); have z2 := (HE.out _ hbd).cell (i := 2) (by decide); have z3 := (HE.out _ hbd).cell (i := 3) (by decide)))
 have HF4 := hid (arr4_set (HE.out _ hbd) (zat (digl q n L)))
 have HBE : Hid (Below w.heap.size w ((((w'.setCell ⟨w.heap.size, 0, none⟩ (.int .i64 (zat (digl q n L) 0))).setCell ⟨w.heap.size, 1, none⟩ (.int .i64 (zat (digl q n L) 1))).setCell ⟨w.heap.size, 2, none⟩ (.int .i64 (zat (digl q n L) 2))).setCell ⟨w.heap.size, 3, none⟩ (.int .i64 (zat (digl q n L) 3)))) :=
  ((((HB0.out.trans (hbd.mono HB0.out.size)).setCell (p := ⟨w.heap.size, 0, none⟩) (Nat.le_refl _) _).setCell (p := ⟨w.heap.size, 1, none⟩) (Nat.le_refl _) _).setCell (p := ⟨w.heap.size, 2, none⟩) (Nat.le_refl _) _).setCell (p := ⟨w.heap.size, 3, none⟩) (Nat.le_refl _) _
 clear y0 y1 y2 y3 z0 z1 z2 z3
 go_wp2_with fail
 refine bodyPost_ret (results_an rfl _ _ w.heap.size 213 4 _ _ (zat (digl q n L)) rfl HF4.out Tryz.underlying213 (by kernel_rfl)) rfl ?_
 exact ⟨rfl, HBE.out⟩
theorem lstR_one {w : World} {a : Option Addr} {cap : Nat} {row : List Int} (hl : Lst w.heap.size w a cap row) : LstR (w.heap.size + 1) (w.drew.alloc (.cells #[.slice a row.length cap] 22)) (some ⟨w.heap.size, 0, none⟩) 1 [row] := by
 have hb : Below w.heap.size w (w.drew.alloc (.cells #[.slice a row.length cap] 22)) := (Below.refl _ _).drew.alloc (Nat.le_refl _) _
 refine ⟨fun k hk => ?_, Nat.le_refl _, fun h => by cases h⟩
 obtain rfl : k = 0 := by simp at hk; omega
 refine ⟨w.heap.size, 0, a, cap, rfl, by omega, ?_, (hl.below hb).mono (by omega)⟩
 have := heap_alloc_new w.drew (.cells #[.slice a row.length cap] 22)
 unfold World.cell?
 rw [show (w.drew.alloc (.cells #[.slice a row.length cap] 22)).heap[(⟨w.heap.size, 0 + 0, none⟩ : Addr).block]? = some (.cells #[.slice a row.length cap] 22 (0, 0)) from this]
 rfl
theorem seerow_any (q n d b s g B cap x : Nat) (a : Option Addr) (row : List Int) (M : Nat -> Nat -> Option (List Int)) (w : World) (ok : SpgOk q n d) (hs : SpgAt w s b q n d) (hw : WlkAt w g B s) (hM : MapIs w B M) (hx : x <= 1000000) (hlen : row.length <= 17592186044000) (hfit : Fits row) (hl : Lst w.heap.size w a cap row) :
  Calls Tryz.prog 162 #[.pointer (some ⟨g, 0, none⟩), .int .i64 (x : Int), .slice a row.length cap] w fun e w' => e = .returned (.tuple #[]) /\ MapIs w' B (upd M x (x + 1) (digl q n (0 :: row))) /\ w.grownBy w' (some B) := by
 have c1 := hw.c1
 have hgl := hw.lt
 have hBl := hM.lt
 have hBg : B ≠ g := fun e => by
  obtain ⟨es, ck, h1, _⟩ := hM
  unfold WlkAt at hw
  rw [e, hw] at h1
  cases h1
 have HB1 : Hid (Below w.heap.size w (w.drew.alloc (.cells #[.slice a row.length cap] 22))) := (Below.refl _ _).drew.alloc (Nat.le_refl _) _
 have HH : Hid (Calls Tryz.prog 207 #[.pointer (some ⟨g, 0, none⟩), .int .i64 0, .slice (some ⟨w.heap.size, 0, none⟩) 1 1] (w.drew.alloc (.cells #[.slice a row.length cap] 22)) fun e w' => e = .returned (.agg #[.int .i64 (zat (digl q n (0 :: row)) 0), .int .i64 (zat (digl q n (0 :: row)) 1), .int .i64 (zat (digl q n (0 :: row)) 2), .int .i64 (zat (digl q n (0 :: row)) 3)]) /\ w'.cell? ⟨g, 1, none⟩ = some (.map (some B)) /\ ∃ w2, (Instr.mapUpdate 247 (.map (some B)) (.agg #[.int .i64 (x : Int), .int .i64 ((x : Int) + 1)]) (.agg #[.int .i64 (zat (digl q n (0 :: row)) 0), .int .i64 (zat (digl q n (0 :: row)) 1), .int .i64 (zat (digl q n (0 :: row)) 2), .int .i64 (zat (digl q n (0 :: row)) 3)])).run Tryz.prog w' = .ok () w2 /\ w2.cell? ⟨g, 1, none⟩ = some (.map (some B)) /\ Hid (MapIs w2 B (upd M x (x + 1) (digl q n (0 :: row))) /\ w.grownBy w2 (some B))) := by
  have hlr := lstR_one hl
  have e0 : (0 :: row) = 0 :: [row].flatten := by simp
  refine (whash_any q n d b s g B 1 0 (some ⟨w.heap.size, 0, none⟩) [row] (w.drew.alloc (.cells #[.slice a row.length cap] 22)) ok (hs.keep HB1.out) (hw.block (HB1.out.block _ hgl)) (by simp; omega) (by simp) (by rw [<- e0]; exact fits_cons (by omega) hfit) ?_).mono ?_
  ·have hsz : (w.drew.alloc (.cells #[.slice a row.length cap] 22)).heap.size = w.heap.size + 1 := by simp
   rw [hsz]
   exact hlr
  ·rintro e w' ⟨rfl, hb⟩
   rw [<- e0]
   have hb2 := HB1.out.trans (hb.mono HB1.out.size)
   obtain ⟨w2, h1, h2, h3⟩ := (hM.below hb2 hBl).update (a := x) (b := x + 1) (by omega) (by omega) (digl q n (0 :: row))
   rw [an4, show gk x (x + 1) = .agg #[.int .i64 (x : Int), .int .i64 ((x : Int) + 1)] from by simp [gk]] at h1
   have c2 := (hb2.cell (p := ⟨g, 1, none⟩) hgl).trans c1
   exact ⟨rfl, c2, w2, h1, (gb_cell h3 (p := ⟨g, 1, none⟩) (by have := hb2.size; show g < _; omega) (Ne.symm hBg)).trans c2, h2, gb_trans (gb_below hb2) h3⟩
 have hwr : IntKind.i64.wrap ((x : Int) + 1) = (x : Int) + 1 := by rw [IntKind.wrap_i64]; omega
 clear ok hs hw hM hfit hl HB1
 generalize digl q n (0 :: row) = DL at *
 go_enter Tryz.func162, Tryz.ntmps162
 go_wp2_with fail
 go_region_held3 (fun w' => w'.cell? ⟨g, 1, none⟩ = some (.map (some B))) (go_keep)
  (first
   | (go_at_call 207; refine HH.out.mono ?_; rintro e w' ⟨rfl, c2, w2, hrun, c3, hE⟩))
 go_wp2_with fail
 go_end0
 exact ⟨rfl, hE.out⟩
def Snd (M : Nat -> Nat -> Option (List Int)) (D : Nat -> Nat -> List Int) : Prop := ∀ a b d, M a b = some d -> d = D a b
def Sub (M M' : Nat -> Nat -> Option (List Int)) : Prop := ∀ a b, M a b ≠ none -> M' a b ≠ none
def ClM (M M' : Nat -> Nat -> Option (List Int)) : Prop := ∀ a b, M' a b ≠ none -> M a b ≠ none ∨ (2 <= b - a /\ M' a (a + lft (b - a)) ≠ none /\ M' (a + lft (b - a)) b ≠ none)
structure RootW (w W1 : World) (g B s x y : Nat) (M : Nat -> Nat -> Option (List Int)) : Prop where
 below : Below w.heap.size w W1
 size : W1.heap.size = w.heap.size + 2
 key : W1.rowIs w.heap.size 201 2 (duo (.int .i64 (x : Int)) (.int .i64 (y : Int)))
 res : ArrI W1 (w.heap.size + 1) 213 4 (fun _ => 0)
 map : MapIs W1 B M
 c1 : W1.cell? ⟨g, 1, none⟩ = some (.map (some B))
theorem rootW_new {w : World} {g B s x y : Nat} {M : Nat -> Nat -> Option (List Int)} (hw : WlkAt w g B s) (hM : MapIs w B M) : RootW w ((w.alloc (.cells #[.int .i64 (x : Int), .int .i64 (y : Int)] 201)).alloc (.cells #[.int .i64 0, .int .i64 0, .int .i64 0, .int .i64 0] 213)) g B s x y M := by
 have hb : Below w.heap.size w ((w.alloc (.cells #[.int .i64 (x : Int), .int .i64 (y : Int)] 201)).alloc (.cells #[.int .i64 0, .int .i64 0, .int .i64 0, .int .i64 0] 213)) := ((Below.refl _ _).alloc (Nat.le_refl _) _).alloc (by simp) _
 exact ⟨hb, by simp, (duo_new w _ _ _).alloc _, ArrI.new2 w _ 4 213 (fun _ => 0), hM.below hb hM.lt, (hb.cell (p := ⟨g, 1, none⟩) hw.lt).trans hw.c1⟩
theorem wroot_found (s g B x y : Nat) (dl : List Int) (M : Nat -> Nat -> Option (List Int)) (w : World) (hw : WlkAt w g B s) (hM : MapIs w B M) (hx : x <= 1000000) (hy : y <= 1000000) (hd : M x y = some dl) :
  Calls Tryz.prog 163 #[.pointer (some ⟨g, 0, none⟩), gk x y] w fun e w' => e = .returned (.agg (an 4 (zat dl))) /\ Below w.heap.size w w' := by
 unfold gk
 have HR := hid (rootW_new (x := x) (y := y) hw hM)
 have hgl := hw.lt
 have hBl := hM.lt
 clear hw hM
 go_enter Tryz.func163, Tryz.ntmps163
 go_wp2_with fail
 generalize (w.alloc (.cells #[.int .i64 (x : Int), .int .i64 (y : Int)] 201)).alloc (.cells #[.int .i64 0, .int .i64 0, .int .i64 0, .int .i64 0] 213) = W1 at *
 have hsz := HR.out.size
 have HK : Hid (∀ W, Below W1.heap.size W1 W -> W.cell? ⟨g, 1, none⟩ = some (.map (some B)) /\ W.cell? ⟨w.heap.size, 0, none⟩ = some (.int .i64 (x : Int)) /\ W.cell? ⟨w.heap.size, 1, none⟩ = some (.int .i64 (y : Int)) /\ W.heap[B]? = W1.heap[B]?) := fun W h =>
  ⟨(h.cell (p := ⟨g, 1, none⟩) (by show g < _; omega)).trans HR.out.c1, (h.cell (p := ⟨w.heap.size, 0, none⟩) (by show w.heap.size < _; omega)).trans (HR.out.key.cell (i := 0) (by omega)), (h.cell (p := ⟨w.heap.size, 1, none⟩) (by show w.heap.size < _; omega)).trans (HR.out.key.cell (i := 1) (by omega)), h.block B (by omega)⟩
 have hLk : ∀ W, W.heap[B]? = W1.heap[B]? -> (Instr.lookup 247 (.map (some B)) (.agg #[.int .i64 (x : Int), .int .i64 (y : Int)]) true).run Tryz.prog W = .ok (.tuple #[.agg #[.int .i64 (zat dl 0), .int .i64 (zat dl 1), .int .i64 (zat dl 2), .int .i64 (zat dl 3)], .bool true]) W := fun W h => by
  have := (HR.out.map.block h).lookup (a := x) (b := y) (by omega) (by omega) true
  rw [hd, show gotv M x y = zat dl from by unfold gotv; rw [hd], an4] at this
  exact this
 go_region_held3 (fun w' => w'.cell? ⟨g, 1, none⟩ = some (.map (some B)) /\ w'.cell? ⟨w.heap.size, 0, none⟩ = some (.int .i64 (x : Int)) /\ w'.cell? ⟨w.heap.size, 1, none⟩ = some (.int .i64 (y : Int)) /\ w'.heap[B]? = W1.heap[B]?)
  (first | exact HK.out _ (Below.refl _ _).drew | exact HK.out _ ((Below.refl _ _).drew.alloc (Nat.le_refl _) _)) (fail)
 all_goals (
  have HAd := hid (ArrI.new W1 4 213 (zat dl)).drew
  rw [an4, hsz] at HAd
  have HAr := hid (HR.out.res.alloc (.cells #[.int .i64 (zat dl 0), .int .i64 (zat dl 1), .int .i64 (zat dl 2), .int .i64 (zat dl 3)] 213)).drew
  have HBe : Hid (Below w.heap.size w (W1.alloc (.cells #[.int .i64 (zat dl 0), .int .i64 (zat dl 1), .int .i64 (zat dl 2), .int .i64 (zat dl 3)] 213)).drew) := (HR.out.below.alloc (by omega) _).drew
  clear HK hLk HR hsz
  generalize (W1.alloc (.cells #[.int .i64 (zat dl 0), .int .i64 (zat dl 1), .int .i64 (zat dl 2), .int .i64 (zat dl 3)] 213)).drew = W2 at *
  go_wp2_with (first
    | (refine wpList_load_an rfl 213 _ rfl _ rfl _ _ _ _ _ HAd.out Tryz.underlying213 (by kernel_rfl) ?_)
    | (refine wpList_store_an rfl 213 _ _ rfl _ _ _ _ rfl rfl _ HAr.out (by kernel_rfl) ?_))
  refine bodyPost_ret (results_an rfl _ _ (w.heap.size + 1) 213 4 _ _ (zat dl) rfl (HAr.out.setRow _) Tryz.underlying213 (by kernel_rfl)) rfl ?_
  exact ⟨rfl, below_setRow HBe.out (by omega) _⟩)
open Go
section
variable {P : Program} {ops : Array Oper} {Q : Exit -> Act -> World -> Prop} {md : Region.Mode}
theorem count_unset {L : Array Bool} {i : Nat} (h : L.getD i true = false) : (L.setIfInBounds i true).toList.count false < L.toList.count false := by
 have hi : i < L.size := by
  rcases Nat.lt_or_ge i L.size with g | g
  ·exact g
  ·simp [Array.getElem?_eq_none g] at h
 have hv : L.toList[i]'(by simpa using hi) = false := by simpa [hi] using h
 rw [Array.toList_setIfInBounds]
 have hc := List.count_set (a := true) (b := false) (l := L.toList) (i := i) (by simpa using hi)
 rw [hv] at hc
 have hpos : 0 < L.toList.count false := List.count_pos_iff.2 (by rw [<- hv]; exact List.getElem_mem _)
 simp only [show ((false : Bool) == false) = true from rfl, show ((true : Bool) == false) = false from rfl, if_true, Bool.false_eq_true, if_false] at hc
 omega
theorem wpAny_inv (Inv : Array Bool -> Act -> World -> Prop)
  (hstep : ∀ L a w, Inv L a w -> ∀ i ∈ Region.ready md ops L, wpOp P ops Q i (fun a' w' => Inv (L.setIfInBounds i true) a' w') a w)
  (hdone : ∀ L a w, Inv L a w -> Region.ready md ops L = [] -> Q .normal a w) :
  ∀ (fuel : Nat) (L : Array Bool) (a : Act) (w : World), L.toList.count false <= fuel -> Inv L a w -> wpAny P md ops Q fuel L a w := by
 intro fuel
 induction fuel with
 | zero =>
  intro L a w hc hI
  have hr : Region.ready md ops L = [] := by
   rcases hrr : Region.ready md ops L with _ | ⟨i, t⟩
   ·rfl
   ·have hi : i ∈ Region.ready md ops L := by rw [hrr]; simp
    have := count_unset (mem_ready.1 hi).1
    omega
  exact ⟨hr, hdone L a w hI hr⟩
 | succ fuel ih =>
  intro L a w hc hI
  refine ⟨fun h => hdone L a w hI h, fun i hi => wpOp_mono (fun a' w' h => ih _ _ _ ?_ h) (hstep L a w hI i hi)⟩
  have := count_unset (mem_ready.1 hi).1
  omega
def lexB (md : Region.Mode) (ops : Array Oper) : Bool := (List.range ops.size).all fun k => match ops[k]? with | some o => o.after.all fun e => !(Region.binds md e) || decide (e.on < k) | none => true
theorem all_listed {L : Array Bool} (hl : lexB md ops = true) (hsz : L.size = ops.size) (hr : Region.ready md ops L = []) : ∀ k, k < ops.size -> L.getD k false = true := by
 intro k
 induction k using Nat.strongRecOn with
 | _ k ih =>
  intro hk
  have ho : ops[k]? = some ops[k] := by simp [hk]
  rcases hx : L.getD k false with _ | _
  ·exfalso
   have hk2 : k < L.size := by omega
   have hmem : k ∈ Region.ready md ops L := by
    refine mem_ready.2 ⟨by simp [hk2] at hx ⊢; exact hx, ops[k], ho, fun e he hb => ?_⟩
    have := List.all_eq_true.1 hl k (List.mem_range.2 hk)
    rw [ho] at this
    have := Array.all_eq_true'.1 this e he
    rw [hb] at this
    simp at this
    exact ih e.on this (by omega)
   rw [hr] at hmem
   cases hmem
  ·rfl
theorem unlisted_of_ready {L : Array Bool} {i : Nat} (h : i ∈ Region.ready md ops L) : L.getD i false = false := by
 have h0 := (mem_ready.1 h).1
 rcases Nat.lt_or_ge i L.size with h' | h'
 ·simp [h'] at h0 ⊢; exact h0
 ·simp [Array.getElem?_eq_none h']
theorem lt_of_ready {L : Array Bool} {i : Nat} (h : i ∈ Region.ready md ops L) : i < ops.size := by
 obtain ⟨_, o, ho, _⟩ := mem_ready.1 h
 exact (Array.getElem?_eq_some_iff.1 ho).1
theorem edges_of_ready {L : Array Bool} {i : Nat} (h : i ∈ Region.ready md ops L) : ∀ o, ops[i]? = some o -> ∀ e ∈ o.after, Region.binds md e = true -> L.getD e.on false = true := fun o ho e he hb => by
 obtain ⟨_, o', ho', hall⟩ := mem_ready.1 h
 rw [ho'] at ho
 obtain rfl := Option.some.inj ho
 exact hall e he hb
theorem dep_of_ready {L : Array Bool} {i k : Nat} (hcl : Cl md ops L) (h : i ∈ Region.ready md ops L) (hd : depB md ops 4 i k = true) : L.getD k false = true := dep_listed hcl 4 i hd (edges_of_ready h)
theorem wpAny_invC (Inv : Array Bool -> Act -> World -> Prop)
  (hstep : ∀ L a w, Cl md ops L -> Inv L a w -> ∀ i ∈ Region.ready md ops L, wpOp P ops Q i (fun a' w' => Inv (L.setIfInBounds i true) a' w') a w)
  (hdone : ∀ L a w, (∀ k, k < ops.size -> L.getD k false = true) -> Inv L a w -> Q .normal a w) (hlex : lexB md ops = true) (a : Act) (w : World)
  (hI : Inv (Array.replicate ops.size false) a w) : wpAny P md ops Q ops.size (Array.replicate ops.size false) a w := by
 refine wpAny_inv (fun L a w => Cl md ops L /\ L.size = ops.size /\ Inv L a w) ?_ ?_ _ _ _ _ ?_ ⟨?_, by simp, hI⟩
 ·intro L a w ⟨h1, h2, h4⟩ i hi
  exact wpOp_mono (fun a' w' h => ⟨h1.set (edges_of_ready hi), by simpa using h2, h⟩) (hstep L a w h1 h4 i hi)
 ·intro L a w ⟨h1, h2, h4⟩ hr
  exact hdone L a w (all_listed hlex h2 hr) h4
 ·simp
 ·intro k o hk hl
  rcases Nat.lt_or_ge k ops.size with g | g
  ·simp [g] at hl
  ·simp [Array.getElem?_eq_none g] at hk
def upd' (σ : Nat -> Value) (i : Nat) (v : Value) : Nat -> Value := fun k => if k = i then v else σ k
def Told (n : Nat) (F : World -> Nat -> Value -> Prop) (L : Array Bool) (w : World) (σ : Nat -> Value) : Prop := ∀ k, k < n -> L.getD k false = true -> F w k (σ k)
theorem Told.one {n : Nat} {F : World -> Nat -> Value -> Prop} {L : Array Bool} {w w' : World} {σ : Nat -> Value} (h : Told n F L w σ) {i : Nat} {v : Value} (hm : ∀ k u, F w k u -> F w' k u) (hv : F w' i v) : Told n F (L.setIfInBounds i true) w' (upd' σ i v) := fun k hk hl => by
 unfold upd'
 by_cases e : k = i
 ·rw [if_pos e, e]; exact hv
 ·rw [if_neg e]
  refine hm _ _ (h k hk ?_)
  simp only [Array.getD_eq_getD_getElem?] at *
  rwa [Array.getElem?_setIfInBounds_ne (Ne.symm e)] at hl
theorem getD_set_other {L : Array Bool} {i k : Nat} (h : i ≠ k) : (L.setIfInBounds i true).getD k false = L.getD k false := by
 simp only [Array.getD_eq_getD_getElem?]
 rw [Array.getElem?_setIfInBounds_ne h]
end
theorem clM_trans {M M1 M2 : Nat -> Nat -> Option (List Int)} (h1 : ClM M M1) (hs : Sub M1 M2) (h2 : ClM M1 M2) : ClM M M2 := fun a b h => by
 rcases h2 a b h with h | h
 ·rcases h1 a b h with h | ⟨e1, e2, e3⟩
  ·exact .inl h
  ·exact .inr ⟨e1, hs _ _ e2, hs _ _ e3⟩
 ·exact .inr h
def PMx (D : Nat -> Nat -> List Int) (M : Nat -> Nat -> Option (List Int)) (B x m y : Nat) (u v : Bool) (W : World) : Prop :=
 ∃ M', MapIs W B M' /\ Snd M' D /\ Sub M M' /\ ClM M M' /\ (u = true -> M' x m ≠ none) /\ (v = true -> M' m y ≠ none)
theorem PMx.block {D : Nat -> Nat -> List Int} {M : Nat -> Nat -> Option (List Int)} {B x m y : Nat} {u v : Bool} {W W' : World} (h : PMx D M B x m y u v W) (e : W'.heap[B]? = W.heap[B]?) : PMx D M B x m y u v W' := by
 obtain ⟨M', h1, r⟩ := h
 exact ⟨M', h1.block e, r⟩
def d4 (d : List Int) : Value := .agg #[.int .i64 (zat d 0), .int .i64 (zat d 1), .int .i64 (zat d 2), .int .i64 (zat d 3)]
def sF (g x m y n3 : Nat) (d1 d2 : List Int) (W : World) : Nat -> Value -> Prop
 | 0, v => v = .pointer (some ⟨g, 0, none⟩)
 | 1, v => v = .agg #[.int .i64 (x : Int), .int .i64 (m : Int)]
 | 2, v => v = d4 d1
 | 3, v => v = .pointer (some ⟨g, 0, none⟩)
 | 4, v => v = .agg #[.int .i64 (m : Int), .int .i64 (y : Int)]
 | 5, v => v = d4 d2
 | 6, v => ∃ A, v = .pointer (some ⟨A, 0, none⟩) /\ n3 <= A /\ ArrI W A 213 4 (fun _ => 0)
 | _, v => ∃ A, v = .pointer (some ⟨A, 0, none⟩) /\ n3 <= A /\ ArrI W A 213 4 (fun _ => 0)
theorem sF_step {g B x m y n3 : Nat} {d1 d2 : List Int} {W W' : World} (hB : B < n3) (h : W.grownBy W' (some B)) : ∀ k u, sF g x m y n3 d1 d2 W k u -> sF g x m y n3 d1 d2 W' k u := fun k u hk => by
 have key : (∃ A, u = .pointer (some ⟨A, 0, none⟩) /\ n3 <= A /\ ArrI W A 213 4 (fun _ => 0)) -> ∃ A, u = .pointer (some ⟨A, 0, none⟩) /\ n3 <= A /\ ArrI W' A 213 4 (fun _ => 0) := by
  rintro ⟨A, h1, h2, h3⟩
  exact ⟨A, h1, h2, h3.block (gb_blk h h3.lt (by omega))⟩
 match k, hk with
 | 0, hk => exact hk
 | 1, hk => exact hk
 | 2, hk => exact hk
 | 3, hk => exact hk
 | 4, hk => exact hk
 | 5, hk => exact hk
 | 6, hk => exact key hk
 | k + 7, hk => exact key hk
def sFin (n3 : Nat) (d1 d2 : List Int) (f : Nat -> Int) (W : World) (σ : Nat -> Value) : Prop := ∃ A A', σ 6 = .pointer (some ⟨A, 0, none⟩) /\ σ 7 = .pointer (some ⟨A', 0, none⟩) /\ σ 5 = d4 d2 /\ n3 <= A /\ n3 <= A' /\ A ≠ A' /\ ArrI W A 213 4 (zat d1) /\ ArrI W A' 213 4 f
def sInv (D : Nat -> Nat -> List Int) (M : Nat -> Nat -> Option (List Int)) (g B x m y n3 : Nat) (W3 : World) (gA : (Nat -> Value) -> Act) (L : Array Bool) (a : Act) (W : World) : Prop :=
 ∃ σ, a = gA σ /\ W3.grownBy W (some B) /\ PMx D M B x m y (L.getD 2 false) (L.getD 5 false) W /\
  (L.getD 8 false = false -> L.getD 9 false = false /\ Told 8 (sF g x m y n3 (D x m) (D m y)) L W σ /\ (L.getD 6 false = true -> L.getD 7 false = true -> σ 6 ≠ σ 7)) /\
  (L.getD 8 false = true -> L.getD 9 false = false -> sFin n3 (D x m) (D m y) (fun _ => 0) W σ) /\ (L.getD 9 false = true -> sFin n3 (D x m) (D m y) (zat (D m y)) W σ)
theorem gb_far {W3 W : World} {B A : Nat} (h : W3.grownBy W (some B)) (hA : W3.heap.size <= A) (i : Nat) (v : Value) : W3.grownBy (W.setCell ⟨A, i, none⟩ v) (some B) :=
 ⟨h.os, h.tape, h.output, by have := h.size; simpa [World.setCell] using this, fun k hk hne => (Below.heap_setCell _ _ _ _ (by show k ≠ A; omega)).trans (h.block k hk hne)⟩
theorem heap_set4 (W : World) (A k : Nat) (h : k ≠ A) (v0 v1 v2 v3 : Value) : ((((W.setCell ⟨A, 0, none⟩ v0).setCell ⟨A, 1, none⟩ v1).setCell ⟨A, 2, none⟩ v2).setCell ⟨A, 3, none⟩ v3).heap[k]? = W.heap[k]? := by
 rw [Below.heap_setCell _ _ _ _ h, Below.heap_setCell _ _ _ _ h, Below.heap_setCell _ _ _ _ h, Below.heap_setCell _ _ _ _ h]
theorem getD_set_same {L : Array Bool} {i : Nat} (h : i < L.size) : (L.setIfInBounds i true).getD i false = true := by simp [h]
theorem sInv_next {D : Nat -> Nat -> List Int} {M : Nat -> Nat -> Option (List Int)} {g B x m y n3 : Nat} {W3 : World} {gA : (Nat -> Value) -> Act} {L : Array Bool} {W W' : World} {σ : Nat -> Value} {i : Nat} {v : Value} {a' : Act} (hi : i < 8) (h8 : L.getD 8 false = false) (h9 : L.getD 9 false = false)
  (ht : Told 8 (sF g x m y n3 (D x m) (D m y)) L W σ) (hgb : W3.grownBy W' (some B)) (hm : ∀ k u, sF g x m y n3 (D x m) (D m y) W k u -> sF g x m y n3 (D x m) (D m y) W' k u) (hv : sF g x m y n3 (D x m) (D m y) W' i v) (hpm : PMx D M B x m y ((L.setIfInBounds i true).getD 2 false) ((L.setIfInBounds i true).getD 5 false) W')
  (h67 : (L.setIfInBounds i true).getD 6 false = true -> (L.setIfInBounds i true).getD 7 false = true -> upd' σ i v 6 ≠ upd' σ i v 7) (ha : a' = gA (upd' σ i v)) : sInv D M g B x m y n3 W3 gA (L.setIfInBounds i true) a' W' :=
 ⟨upd' σ i v, ha, hgb, hpm, fun _ => ⟨by rw [getD_set_other (by omega)]; exact h9, ht.one hm hv, h67⟩, fun h => (by rw [getD_set_other (by omega), h8] at h; cases h), fun h => (by rw [getD_set_other (by omega), h9] at h; cases h)⟩
def rA5 (g ws w3s B x m y : Nat) (σ : Nat -> Value) : Act :=
 { tmps := #[.pointer (some ⟨g, 0, none⟩), .agg #[.int .i64 (x : Int), .int .i64 (y : Int)], undef, .pointer (some ⟨ws, 0, none⟩), .pointer (some ⟨ws + 1, 0, none⟩), .pointer (some ⟨ws + 2, 0, none⟩), .bool false, .pointer (some ⟨w3s, 0, none⟩), .pointer (some ⟨w3s + 1, 0, none⟩), σ 6, σ 7, undef,
   .tuple #[.agg #[.int .i64 0, .int .i64 0, .int .i64 0, .int .i64 0], .bool false], .pointer (some ⟨g, 0, none⟩), .pointer (some ⟨g, 0, none⟩), .pointer (some ⟨g, 1, none⟩), .map (some B), .agg #[.int .i64 (x : Int), .int .i64 (y : Int)],
   .tuple #[.agg #[.int .i64 0, .int .i64 0, .int .i64 0, .int .i64 0], .bool false], .agg #[.int .i64 0, .int .i64 0, .int .i64 0, .int .i64 0], .bool false, .bool false, undef,
   .tuple #[.agg #[.int .i64 (x : Int), .int .i64 (m : Int)], .agg #[.int .i64 (m : Int), .int .i64 (y : Int)]], .agg #[.int .i64 (x : Int), .int .i64 (y : Int)],
   .tuple #[.agg #[.int .i64 (x : Int), .int .i64 (m : Int)], .agg #[.int .i64 (m : Int), .int .i64 (y : Int)]], .agg #[.int .i64 (x : Int), .int .i64 (m : Int)], .agg #[.int .i64 (m : Int), .int .i64 (y : Int)],
   σ 0, σ 1, σ 2, σ 3, σ 4, σ 5, undef, undef, undef, undef, undef, undef, undef, undef, undef, undef, undef, undef], defers := [] }
theorem ArrI.lst4 {W : World} {A : Nat} {t : TypeId} {d : List Int} (h : ArrI W A t 4 (zat d)) (hd : d.length = 4) : Lst W.heap.size W (some ⟨A, 0, none⟩) 4 d :=
 ⟨fun k hk => ⟨A, 0, rfl, h.lt, by rw [Nat.zero_add]; exact h.cell (by omega)⟩, by omega, fun e => by cases e⟩
theorem lstR_two {V : World} {P : Nat} {A A' : Nat} {d1 d2 : List Int} (hP : V.heap[P]? = some (.cells #[.slice (some ⟨A, 0, none⟩) 4 4, .slice (some ⟨A', 0, none⟩) 4 4] 22 (0, 0))) (h1 : Lst V.heap.size V (some ⟨A, 0, none⟩) 4 d1) (h2 : Lst V.heap.size V (some ⟨A', 0, none⟩) 4 d2) (l1 : d1.length = 4) (l2 : d2.length = 4) : LstR V.heap.size V (some ⟨P, 0, none⟩) 2 [d1, d2] := by
 have hlt : P < V.heap.size := (Array.getElem?_eq_some_iff.1 hP).1
 refine ⟨fun k hk => ?_, Nat.le_refl _, fun h => by cases h⟩
 have : k = 0 ∨ k = 1 := by simp at hk; omega
 rcases this with rfl | rfl
 ·refine ⟨P, 0, some ⟨A, 0, none⟩, 4, rfl, hlt, ?_, h1⟩
  show _ = some (Value.slice (some ⟨A, 0, none⟩) d1.length 4)
  rw [l1]
  simp [World.cell?, hP]
 ·refine ⟨P, 0, some ⟨A', 0, none⟩, 4, rfl, hlt, ?_, h2⟩
  show _ = some (Value.slice (some ⟨A', 0, none⟩) d2.length 4)
  rw [l2]
  simp [World.cell?, hP]
def sq : Code -> Code
 | .seq _ b => b
 | c => c
noncomputable def rootCode : Code := (Tryz.f163.body).getD .ret
theorem wp_of_eq {P : Program} {c c' : Code} {Q : Exit -> Act -> World -> Prop} {a : Act} {w : World} (e : c' = c) (h : c.wp P Q a w) : c'.wp P Q a w := by rw [e]; exact h
def RootR (D : Nat -> Nat -> List Int) (M : Nat -> Nat -> Option (List Int)) (B x y : Nat) (w : World) (e : Ending) (w' : World) : Prop := e = .returned (.agg (an 4 (zat (D x y)))) /\ (∃ M', MapIs w' B M' /\ Snd M' D /\ Sub M M' /\ ClM M M' /\ M' x y ≠ none) /\ w.grownBy w' (some B)
theorem root7 {u1 u2 u5 u6 u7 u8 u9 u10 u12 u13 u14 u15 u16 u17 u18 u19 u20 u21 u22 u23 u24 u25 u26 u27 u28 u29 u30 u31 u32 u33 u34 u35 u36 u37 u38 u39 u40 u41 u42 u43 u44 u45 : Value} (s g B x y c m E : Nat) (D : Nat -> Nat -> List Int) (M : Nat -> Nat -> Option (List Int)) (w V : World) (hm : m = x + lft c) (hc : y = x + c) (hx : x <= 1000000) (hy : y <= 1000000) (h2 : 2 <= c)
  (hE : ArrI V E 213 4 (zat (D x y))) (hEn : w.heap.size + 1 < E) (hpm : PMx D M B x m y true true V) (hw : WlkAt V g B s) (hk : V.rowIs w.heap.size 201 2 (duo (.int .i64 (x : Int)) (.int .i64 (y : Int)))) (hr : ArrI V (w.heap.size + 1) 213 4 (fun _ => 0)) (hgb : w.grownBy V (some B)) (hBl : B < w.heap.size) (hBg : B ≠ g) :
  (sq (sq (sq (sq (sq rootCode))))).wp Tryz.prog (bodyPost Tryz.prog Tryz.f163 (RootR D M B x y w)) { tmps := #[.pointer (some ⟨g, 0, none⟩), u1, u2, .pointer (some ⟨w.heap.size, 0, none⟩), .pointer (some ⟨w.heap.size + 1, 0, none⟩), u5, u6, u7, u8, u9, u10, .pointer (some ⟨E, 0, none⟩), u12, u13, u14, u15, u16, u17, u18, u19, u20, u21, u22, u23, u24, u25, u26, u27, u28, u29, u30, u31, u32, u33, u34, u35, u36, u37, u38, u39, u40, u41, u42, u43, u44, u45], defers := [] } V := by
 have c1 := hw.c1
 have k0 := hk.cell (i := 0) (by omega)
 have k1 := hk.cell (i := 1) (by omega)
 simp only [duo] at k0 k1
 have d0 := hE.cell (i := 0) (by omega)
 have d1 := hE.cell (i := 1) (by omega)
 have d2 := hE.cell (i := 2) (by omega)
 have d3 := hE.cell (i := 3) (by omega)
 obtain ⟨M', g1, g2, g3, g4, g5, g6⟩ := hpm
 obtain ⟨w2, hrun, hm2, hgb2⟩ := (show MapIs V.drew B M' from g1).update (a := x) (b := y) (by omega) (by omega) (D x y)
 rw [an4] at hrun
 unfold gk at hrun
 have hEl := hE.lt
 have hB2 : ∀ k, k < V.heap.size -> k ≠ B -> w2.heap[k]? = V.heap[k]? := fun k hk hne => gb_blk (A := V.drew) hgb2 hk hne
 have hcell : ∀ a : Addr, a.block < V.heap.size -> a.block ≠ B -> w2.cell? a = V.cell? a := fun a h1 h2 => World.cell?_of_block (w := V) (hB2 a.block h1 h2)
 have c1' := (hcell ⟨g, 1, none⟩ hw.lt (Ne.symm hBg)).trans c1
 have k0' := (hcell ⟨w.heap.size, 0, none⟩ (by show w.heap.size < _; omega) (by show w.heap.size ≠ B; omega)).trans k0
 have k1' := (hcell ⟨w.heap.size, 1, none⟩ (by show w.heap.size < _; omega) (by show w.heap.size ≠ B; omega)).trans k1
 have d0' := (hcell ⟨E, 0, none⟩ hEl (by show E ≠ B; omega)).trans d0
 have d1' := (hcell ⟨E, 1, none⟩ hEl (by show E ≠ B; omega)).trans d1
 have d2' := (hcell ⟨E, 2, none⟩ hEl (by show E ≠ B; omega)).trans d2
 have d3' := (hcell ⟨E, 3, none⟩ hEl (by show E ≠ B; omega)).trans d3
 have HAd := hid (hE.block (hB2 E hEl (by omega)))
 have HAr := hid (hr.block (hB2 _ hr.lt (by omega)))
 have HFIN : Hid (∀ w4, w4 = w2.setRow (w.heap.size + 1) (an 4 (zat (D x y))) -> RootR D M B x y w (.returned (.agg (an 4 (zat (D x y))))) w4) := fun w4 e => by
  rw [e]
  have hy2 : y - x = c := by omega
  refine ⟨rfl, ⟨upd M' x y (D x y), hm2.block (setRow_other _ _ _ _ (by omega)), ?_, ?_, ?_, by rw [upd_same]; simp⟩, ?_⟩
  ·intro a b dd h
   by_cases hab : a = x /\ b = y
   ·rw [hab.1, hab.2, upd_same] at h
    cases h
    rw [hab.1, hab.2]
   ·rw [upd_other hab] at h
    exact g2 a b dd h
  ·intro a b h
   by_cases hab : a = x /\ b = y
   ·rw [hab.1, hab.2, upd_same]; simp
   ·rw [upd_other hab]; exact g3 a b h
  ·have hsub : ∀ a b, M' a b ≠ none -> upd M' x y (D x y) a b ≠ none := fun a b h => by
    by_cases hab : a = x /\ b = y
    ·rw [hab.1, hab.2, upd_same]; simp
    ·rw [upd_other hab]; exact h
   intro a b h
   by_cases hab : a = x /\ b = y
   ·right
    rw [hab.1, hab.2, hy2, <- hm]
    exact ⟨h2, hsub _ _ (g5 rfl), hsub _ _ (g6 rfl)⟩
   ·rw [upd_other hab] at h
    rcases g4 a b h with h | ⟨e1, e2, e3⟩
    ·exact .inl h
    ·exact .inr ⟨e1, hsub _ _ e2, hsub _ _ e3⟩
  ·have hg3 : w.grownBy w2 (some B) := gb_trans (gb_drew hgb) hgb2
   exact ⟨hg3.os, hg3.tape, hg3.output, by simpa using hg3.size, fun k hk hne => (setRow_other _ _ _ _ (by omega)).trans (hg3.block k hk hne)⟩
 generalize RootR D M B x y w = RR at *
 clear hm hc hE g1 g2 g3 g4 g5 g6 hw hk hr hgb hm2 hgb2 hB2 hcell
 refine wp_of_eq (c := .seq (.region 7 _ true) _) rfl ?_
 go_wp2_with fail
 go_region_held3 (fun w' => w'.cell? ⟨g, 1, none⟩ = some (.map (some B)) /\ w'.cell? ⟨w.heap.size, 0, none⟩ = some (.int .i64 (x : Int)) /\ w'.cell? ⟨w.heap.size, 1, none⟩ = some (.int .i64 (y : Int)) /\ w'.cell? ⟨E, 0, none⟩ = some (.int .i64 (zat (D x y) 0)) /\ w'.cell? ⟨E, 1, none⟩ = some (.int .i64 (zat (D x y) 1)) /\ w'.cell? ⟨E, 2, none⟩ = some (.int .i64 (zat (D x y) 2)) /\ w'.cell? ⟨E, 3, none⟩ = some (.int .i64 (zat (D x y) 3))) (go_keep) (fail)
 go_wp2_with (first
    | (refine wpList_load_an rfl 213 _ rfl _ rfl _ _ _ _ _ HAd.out Tryz.underlying213 (by kernel_rfl) ?_)
    | (refine wpList_store_an rfl 213 _ _ rfl _ _ _ _ rfl rfl _ HAr.out (by kernel_rfl) ?_))
 refine bodyPost_ret (results_an rfl _ _ (w.heap.size + 1) 213 4 _ _ (zat (D x y)) rfl (HAr.out.setRow _) Tryz.underlying213 (by kernel_rfl)) rfl ?_
 exact HFIN.out _ rfl
theorem root6 (q n d b s g B x y c m A A' w3s : Nat) (D : Nat -> Nat -> List Int) (M : Nat -> Nat -> Option (List Int)) (w W : World) (σ : Nat -> Value) (ok : SpgOk q n d) (hD : ∀ a b, Dgst q (D a b)) (hm : m = x + lft c) (hc : y = x + c) (hx : x <= 1000000) (hy : y <= 1000000) (h2 : 2 <= c) (hDe : D x y = digl q n (1 :: (D x m ++ D m y))) (e6 : σ 6 = .pointer (some ⟨A, 0, none⟩)) (e7 : σ 7 = .pointer (some ⟨A', 0, none⟩))
  (hA2 : ArrI W A 213 4 (zat (D x m))) (hA4 : ArrI W A' 213 4 (zat (D m y))) (hpm : PMx D M B x m y true true W) (hs : SpgAt W s b q n d) (hw : WlkAt W g B s) (hk : W.rowIs w.heap.size 201 2 (duo (.int .i64 (x : Int)) (.int .i64 (y : Int)))) (hr : ArrI W (w.heap.size + 1) 213 4 (fun _ => 0)) (hgb : w.grownBy W (some B)) (hBl : B < w.heap.size) (hBg : B ≠ g) :
  (sq (sq (sq (sq rootCode)))).wp Tryz.prog (bodyPost Tryz.prog Tryz.f163 (RootR D M B x y w)) (rA5 g w.heap.size w3s B x m y σ) W := by
 have hgW := hw.lt
 have hrl := hr.lt
 have HH : Hid (∀ (V : World) (P : Nat), Below W.heap.size W V -> V.heap[P]? = some (.cells #[.slice (some ⟨A, 0, none⟩) 4 4, .slice (some ⟨A', 0, none⟩) 4 4] 22 (0, 0)) -> Calls Tryz.prog 207 #[.pointer (some ⟨g, 0, none⟩), .int .i64 1, .slice (some ⟨P, 0, none⟩) 2 2] V fun e w' => e = .returned (d4 (D x y)) /\ Below V.heap.size V w') := fun V P hb hP => by
  have hfl : [D x m, D m y].flatten = D x m ++ D m y := by simp
  have hl1 := (hD x m).1
  have hl2 := (hD m y).1
  have hf1 := (hD x m).fits ok.hm
  have hf2 := (hD m y).fits ok.hm
  have hr : LstR V.heap.size V (some ⟨P, 0, none⟩) 2 [D x m, D m y] := lstR_two hP ((hA2.below hb hA2.lt).lst4 hl1) ((hA4.below hb hA4.lt).lst4 hl2) hl1 hl2
  have := whash_any q n d b s g B 2 1 (some ⟨P, 0, none⟩) [D x m, D m y] V ok (hs.keep hb) (hw.block (hb.block _ hgW)) (by rw [hfl, List.length_append]; omega) (by simp) (by rw [hfl]; exact fits_cons (by omega) (fits_append hf1 hf2)) hr
  rw [hfl, <- hDe, an4] at this
  exact this
 have HT : Hid (∀ (E : Nat) (V : World), Below W.heap.size W V -> W.heap.size <= E -> ArrI V E 213 4 (zat (D x y)) -> ∀ u1 u2 u5 u6 u7 u8 u9 u10 u12 u13 u14 u15 u16 u17 u18 u19 u20 u21 u22 u23 u24 u25 u26 u27 u28 u29 u30 u31 u32 u33 u34 u35 u36 u37 u38 u39 u40 u41 u42 u43 u44 u45 : Value, (sq (sq (sq (sq (sq rootCode))))).wp Tryz.prog (bodyPost Tryz.prog Tryz.f163 (RootR D M B x y w)) { tmps := #[.pointer (some ⟨g, 0, none⟩), u1, u2, .pointer (some ⟨w.heap.size, 0, none⟩), .pointer (some ⟨w.heap.size + 1, 0, none⟩), u5, u6, u7, u8, u9, u10, .pointer (some ⟨E, 0, none⟩), u12, u13, u14, u15, u16, u17, u18, u19, u20, u21, u22, u23, u24, u25, u26, u27, u28, u29, u30, u31, u32, u33, u34, u35, u36, u37, u38, u39, u40, u41, u42, u43, u44, u45], defers := [] } V) := by
  intro E V hb hE1 hE u1 u2 u5 u6 u7 u8 u9 u10 u12 u13 u14 u15 u16 u17 u18 u19 u20 u21 u22 u23 u24 u25 u26 u27 u28 u29 u30 u31 u32 u33 u34 u35 u36 u37 u38 u39 u40 u41 u42 u43 u44 u45
  exact root7 s g B x y c m E D M w V hm hc hx hy h2 hE (by omega) (hpm.block (hb.block _ (by have := hgb.size; omega))) (hw.block (hb.block _ hgW)) (hk.of_block (hb.block _ hk.lt)) (hr.block (hb.block _ hrl)) (gb_trans hgb (gb_below hb)) hBl hBg
 clear hs hw hk hr hgb hpm hm hc hD hA2 hA4 ok hDe
 refine wp_of_eq (c := .seq (.region 6 _ true) _) rfl ?_
 refine wp_seq_k (fun K hK => ?_)
 simp only [rA5, e6, e7]
 generalize σ 0 = u28 at *
 generalize σ 1 = u29 at *
 generalize σ 2 = u30 at *
 generalize σ 3 = u31 at *
 generalize σ 4 = u32 at *
 generalize σ 5 = u33 at *
 clear e6 e7
 have HBa : Hid (Below W.heap.size W ((W.alloc (.cells #[.int .i64 0, .int .i64 0, .int .i64 0, .int .i64 0] 213)).alloc (.cells #[.slice (some ⟨A, 0, none⟩) 4 4, .slice (some ⟨A', 0, none⟩) 4 4] 22)).drew) := (((Below.refl _ _).alloc (Nat.le_refl _) _).alloc (by simp) _).drew
 have HBb : Hid (Below W.heap.size W ((W.alloc (.cells #[.slice (some ⟨A, 0, none⟩) 4 4, .slice (some ⟨A', 0, none⟩) 4 4] 22)).alloc (.cells #[.int .i64 0, .int .i64 0, .int .i64 0, .int .i64 0] 213)).drew) := (((Below.refl _ _).alloc (Nat.le_refl _) _).alloc (by simp) _).drew
 have HBc : Hid (Below W.heap.size W (W.alloc (.cells #[.slice (some ⟨A, 0, none⟩) 4 4, .slice (some ⟨A', 0, none⟩) 4 4] 22)).drew) := ((Below.refl _ _).alloc (Nat.le_refl _) _).drew
 have HPa : Hid (((W.alloc (.cells #[.int .i64 0, .int .i64 0, .int .i64 0, .int .i64 0] 213)).alloc (.cells #[.slice (some ⟨A, 0, none⟩) 4 4, .slice (some ⟨A', 0, none⟩) 4 4] 22)).drew.heap[W.heap.size + 1]? = some (.cells #[.slice (some ⟨A, 0, none⟩) 4 4, .slice (some ⟨A', 0, none⟩) 4 4] 22)) := by
  have := heap_alloc_new (W.alloc (.cells #[.int .i64 0, .int .i64 0, .int .i64 0, .int .i64 0] 213)) (.cells #[.slice (some ⟨A, 0, none⟩) 4 4, .slice (some ⟨A', 0, none⟩) 4 4] 22)
  rwa [show (W.alloc (.cells #[.int .i64 0, .int .i64 0, .int .i64 0, .int .i64 0] 213)).heap.size = W.heap.size + 1 from by simp] at this
 have HPc : Hid ((W.alloc (.cells #[.slice (some ⟨A, 0, none⟩) 4 4, .slice (some ⟨A', 0, none⟩) 4 4] 22)).drew.heap[W.heap.size]? = some (.cells #[.slice (some ⟨A, 0, none⟩) 4 4, .slice (some ⟨A', 0, none⟩) 4 4] 22)) := heap_alloc_new W (.cells #[.slice (some ⟨A, 0, none⟩) 4 4, .slice (some ⟨A', 0, none⟩) 4 4] 22)
 have HPb : Hid (((W.alloc (.cells #[.slice (some ⟨A, 0, none⟩) 4 4, .slice (some ⟨A', 0, none⟩) 4 4] 22)).alloc (.cells #[.int .i64 0, .int .i64 0, .int .i64 0, .int .i64 0] 213)).drew.heap[W.heap.size]? = some (.cells #[.slice (some ⟨A, 0, none⟩) 4 4, .slice (some ⟨A', 0, none⟩) 4 4] 22)) := (Below.heap_alloc _ _ _ (by simp)).trans HPc.out
 have HXa : Hid (∀ w', Below ((W.alloc (.cells #[.int .i64 0, .int .i64 0, .int .i64 0, .int .i64 0] 213)).alloc (.cells #[.slice (some ⟨A, 0, none⟩) 4 4, .slice (some ⟨A', 0, none⟩) 4 4] 22)).drew.heap.size ((W.alloc (.cells #[.int .i64 0, .int .i64 0, .int .i64 0, .int .i64 0] 213)).alloc (.cells #[.slice (some ⟨A, 0, none⟩) 4 4, .slice (some ⟨A', 0, none⟩) 4 4] 22)).drew w' -> ArrI w' W.heap.size 213 4 (fun _ => 0)) := fun w' h => ArrI.below ((ArrI.new W 4 213 (fun _ => 0)).alloc (.cells #[.slice (some ⟨A, 0, none⟩) 4 4, .slice (some ⟨A', 0, none⟩) 4 4] 22)).drew h ((ArrI.new W 4 213 (fun _ => 0)).alloc (.cells #[.slice (some ⟨A, 0, none⟩) 4 4, .slice (some ⟨A', 0, none⟩) 4 4] 22)).lt
 have HXb : Hid (∀ w', Below ((W.alloc (.cells #[.slice (some ⟨A, 0, none⟩) 4 4, .slice (some ⟨A', 0, none⟩) 4 4] 22)).alloc (.cells #[.int .i64 0, .int .i64 0, .int .i64 0, .int .i64 0] 213)).drew.heap.size ((W.alloc (.cells #[.slice (some ⟨A, 0, none⟩) 4 4, .slice (some ⟨A', 0, none⟩) 4 4] 22)).alloc (.cells #[.int .i64 0, .int .i64 0, .int .i64 0, .int .i64 0] 213)).drew w' -> ArrI w' (W.heap.size + 1) 213 4 (fun _ => 0)) := fun w' h => ArrI.below (ArrI.new2 W (.cells #[.slice (some ⟨A, 0, none⟩) 4 4, .slice (some ⟨A', 0, none⟩) 4 4] 22) 4 213 (fun _ => 0)).drew h (ArrI.new2 W (.cells #[.slice (some ⟨A, 0, none⟩) 4 4, .slice (some ⟨A', 0, none⟩) 4 4] 22) 4 213 (fun _ => 0)).lt
 go_region_held3 (fun _ => True) (trivial)
  (first
   | (go_at_call 207; refine (HH.out _ _ (by first | with_reducible exact HBa.out | with_reducible exact HBb.out | with_reducible exact HBc.out) (by first | with_reducible exact HPa.out | with_reducible exact HPb.out | with_reducible exact HPc.out)).mono ?_; unfold d4; rintro e w' ⟨rfl, hbd⟩;
             (first
              | ((have hx : ArrI w' W.heap.size 213 4 (fun _ => 0) := by with_reducible exact HXa.out _ hbd); have zc0 := hx.cell (i := 0) (by decide); have yc0 := hx.frozen 0; have zc1 := hx.cell (i := 1) (by decide); have yc1 := hx.frozen 1; have zc2 := hx.cell (i := 2) (by decide); have yc2 := hx.frozen 2; have zc3 := hx.cell (i := 3) (by decide); have yc3 := hx.frozen 3; clear hx)
              | ((have hx : ArrI w' (W.heap.size + 1) 213 4 (fun _ => 0) := by with_reducible exact HXb.out _ hbd); have zc0 := hx.cell (i := 0) (by decide); have yc0 := hx.frozen 0; have zc1 := hx.cell (i := 1) (by decide); have yc1 := hx.frozen 1; have zc2 := hx.cell (i := 2) (by decide); have yc2 := hx.frozen 2; have zc3 := hx.cell (i := 3) (by decide); have yc3 := hx.frozen 3; clear hx)
              | skip)))
 ·have hV : Below W.heap.size W w' := HBc.out.trans (hbd.mono HBc.out.size)
  have hA := ArrI.new w' 4 213 (zat (D x y))
  rw [an4] at hA
  exact hK _ _ (HT.out _ _ (hV.alloc hV.size _) hV.size hA _ _ _ _ _ _ _ _ _ _ _ _ _ _ _ _ _ _ _ _ _ _ _ _ _ _ _ _ _ _ _ _ _ _ _ _ _ _ _ _ _ _)
 ·have hV : Below W.heap.size W w' := HBb.out.trans (hbd.mono HBb.out.size)
  have hA := arr4_set (HXb.out _ hbd) (zat (D x y))
  exact hK _ _ (HT.out _ _ ((((hV.setCell (p := ⟨W.heap.size + 1, 0, none⟩) (by show W.heap.size <= W.heap.size + 1; omega) _).setCell (p := ⟨W.heap.size + 1, 1, none⟩) (by show W.heap.size <= W.heap.size + 1; omega) _).setCell (p := ⟨W.heap.size + 1, 2, none⟩) (by show W.heap.size <= W.heap.size + 1; omega) _).setCell (p := ⟨W.heap.size + 1, 3, none⟩) (by show W.heap.size <= W.heap.size + 1; omega) _) (by omega) hA _ _ _ _ _ _ _ _ _ _ _ _ _ _ _ _ _ _ _ _ _ _ _ _ _ _ _ _ _ _ _ _ _ _ _ _ _ _ _ _ _ _)
 ·have hV : Below W.heap.size W w' := HBa.out.trans (hbd.mono HBa.out.size)
  have hA := arr4_set (HXa.out _ hbd) (zat (D x y))
  exact hK _ _ (HT.out _ _ ((((hV.setCell (p := ⟨W.heap.size, 0, none⟩) (Nat.le_refl _) _).setCell (p := ⟨W.heap.size, 1, none⟩) (Nat.le_refl _) _).setCell (p := ⟨W.heap.size, 2, none⟩) (Nat.le_refl _) _).setCell (p := ⟨W.heap.size, 3, none⟩) (Nat.le_refl _) _) (Nat.le_refl _) hA _ _ _ _ _ _ _ _ _ _ _ _ _ _ _ _ _ _ _ _ _ _ _ _ _ _ _ _ _ _ _ _ _ _ _ _ _ _ _ _ _ _)
end Go.Proofs.YtlhjifpomchnfaaGreatDoor
