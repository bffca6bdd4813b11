/- Package tree: isShown. Package tree: joined, hash, seeRow. -/
import Derived.Test.YtpgnabmkfkcogaaGreatDoorGxAH
import Derived.Test.YtpgnabmkfkcogaaGreatDoorTres
import Derived.Test.YtpgnabmkfkcogaaGreatDoorTrgs
import Derived.Test.YtpgnabmkfkcogaaGreatDoorGxAB
namespace Go.Proofs.YtpgnabmkfkcogaaGreatDoor
open Go.RowKit

theorem seg_all {ps : List Int} {N : Nat} (h : ∀ x ∈ ps, 0 ≤ x ∧ x < (N : Int)) : seg ps ((0 : Nat) : Int) (((0 : Nat) : Int) + (N : Int)) = ps := by
  unfold seg
  rw [List.filter_eq_self]
  intro x hx
  have := h x hx
  simp
  omega
def ShwnR (N : Nat) (ps : List Int) (rows nodes : List (List Int)) (w : World) (e : Ending) (w' : World) : Prop := (∃ t, e = .returned (.bool t) ∧ (t = true ↔ shwn N ps rows nodes)) ∧ Below w.heap.size w w'
theorem ShwnR.no {N : Nat} {ps : List Int} {rows nodes : List (List Int)} {w w' : World} (h : ¬ shwn N ps rows nodes) (hb : Below w.heap.size w w') : ShwnR N ps rows nodes w (.returned (.bool false)) w' := ⟨⟨false, rfl, by simp; exact h⟩, hb⟩
theorem ShwnR.mk {N : Nat} {ps : List Int} {rows nodes : List (List Int)} {w w' : World} (t : Bool) (h : t = true ↔ shwn N ps rows nodes) (hb : Below w.heap.size w w') : ShwnR N ps rows nodes w (.returned (.bool t)) w' := ⟨⟨t, rfl, h⟩, hb⟩
/-- an Opening in memory -/
structure OpnAt (W : World) (O cp cr cn : Nat) (ap ar an' : Option Addr) (ps : List Int) (rows nodes : List (List Int)) : Prop where
  c0 : W.cell? ⟨O, 0, none⟩ = some (.slice ap ps.length cp)
  c1 : W.cell? ⟨O, 1, none⟩ = some (.slice ar rows.length cr)
  c2 : W.cell? ⟨O, 2, none⟩ = some (.slice an' nodes.length cn)

end Go.Proofs.YtpgnabmkfkcogaaGreatDoor

namespace Go.Proofs.YtpgnabmkfkcogaaGreatDoor
open Go.RowKit

theorem flat_snoc {rows : List (List Int)} {k : Nat} (h : k < rows.length) : (rows.take (k + 1)).flatten = (rows.take k).flatten ++ rat rows k := by
  have e : rows.take (k + 1) = rows.take k ++ [rat rows k] := by
    rw [List.take_add_one, List.getElem?_eq_getElem h]
    unfold rat
    rw [List.getD_eq_getElem?_getD, List.getElem?_eq_getElem h]
    rfl
  rw [e, List.flatten_append]
  simp
theorem flat_le {rows : List (List Int)} (k : Nat) : (rows.take k).flatten.length ≤ rows.flatten.length := by
  have := congrArg (fun l => (List.flatten l).length) (List.take_append_drop k rows)
  simp only [List.flatten_append, List.length_append] at this
  omega

theorem hidK {α β : Type} {A B : α → β → Prop} {C : α → β → Prop} (h : ∀ x y, Hid (A x y) → B x y → C x y) : ∀ x y, A x y → B x y → C x y := fun x y a b => h x y a b

set_option maxRecDepth 100000 in
set_option maxHeartbeats 1000000 in
theorem joined_any (mark : Int) (cap : Nat) (a : Option Addr) (rows : List (List Int)) (w : World) (hlen : rows.flatten.length ≤ 17592186044300) (hrl : rows.length ≤ 17592186044300) (hl : LstR w.heap.size w a cap rows) :
    Calls Tryz.prog 261 #[.int .i64 mark, .slice a rows.length cap] w fun e w' => ∃ v, e = .returned v ∧ w'.ownsRow w.heap.size 3 1 v (mark :: rows.flatten).length ((mark :: rows.flatten).map (Value.int .i64)) ∧ Below w.heap.size w w' := by
  have HL := hid hl
  have HFL := hid hlen
  clear hl hlen
  have HO := hid (owns_one w mark)
  have HBA : Hid (Below w.heap.size w (w.alloc (.cells #[.int .i64 mark] 3))) := (Below.refl _ _).alloc (Nat.le_refl _) _
  obtain ⟨m, hm⟩ : ∃ m, m = rows.length := ⟨_, rfl⟩
  rw [← hm] at hrl ⊢
  have HM := hid hm
  clear hm
  go_enter Tryz.func261, Tryz.ntmps261
  go_wp2_with fail
  go_loopw [5, 12] (fun v iv wr => ∃ k : Nat, k ≤ m ∧ iv = .int .i64 k ∧ Hid (wr.ownsRow w.heap.size 3 1 v (mark :: (rows.take k).flatten).length ((mark :: (rows.take k).flatten).map (Value.int .i64)) ∧ Below w.heap.size w wr))
    (fun _ iv _ => m - (intOf iv).toNat)
  case atStart =>
    exact ⟨0, by omega, rfl, HO.out, HBA.out⟩
  case round =>
    obtain ⟨k, hk, rfl, hC⟩ := hrel
    by_cases hlt : k < m
    · have hlt2 : (k : Int) < (m : Int) := by omega
      have hks : IntKind.i64.wrap ((k : Int) + 1) = (k : Int) + 1 := by rw [IntKind.wrap_i64]; omega
      obtain ⟨bl, ol, ak, ck, rfl, hbl', hcl, hlk⟩ := HL.out.row k (by rw [← HM.out]; exact hlt)
      have hcl2 := (hC.out.2.cell (p := ⟨bl, ol + k, none⟩) hbl').trans hcl
      have HLK := hid (hlk.below hC.out.2)
      have HLE : Hid ((mark :: (rows.take k).flatten).length + (rat rows k).length ≤ 17592186044416) := by
        have e1 := flat_snoc (rows := rows) (k := k) (by rw [← HM.out]; exact hlt)
        have e2 := flat_le (rows := rows) (k + 1)
        have e3 := HFL.out
        rw [e1, List.length_append] at e2
        show _ + 1 + _ ≤ _
        omega
      have HSN : Hid (mark :: (rows.take (k + 1)).flatten = (mark :: (rows.take k).flatten) ++ rat rows k) := by unfold Hid; rw [flat_snoc (by rw [← HM.out]; exact hlt)]; rfl
      obtain ⟨Z, hZ⟩ : ∃ Z, Z = mark :: (rows.take k).flatten := ⟨_, rfl⟩
      obtain ⟨Y, hY⟩ : ∃ Y, Y = rat rows k := ⟨_, rfl⟩
      rw [← hZ, ← hY] at HSN HLE
      rw [← hZ] at hC
      rw [← hY] at HLK hcl2
      clear hcl hbl' hlk hZ hY
      go_wp2_with (at_builtin; refine wpList_appendL wr w.heap.size w.heap.size rfl _ _ rfl _ rfl _ _ hC.out.1 _ _ rfl HLE.out hC.out.2.size HLK.out ?_; refine hidK ?_)
      intro v' w2 HOW hb2
      have HE : Hid (w2.ownsRow w.heap.size 3 1 v' (mark :: (rows.take (k + 1)).flatten).length ((mark :: (rows.take (k + 1)).flatten).map (Value.int .i64)) ∧ Below w.heap.size w w2) := by
        unfold Hid
        rw [HSN.out, List.length_append, List.map_append]
        exact ⟨HOW.out, hC.out.2.trans hb2⟩
      clear HOW hb2
      go_wp2_with fail
      go_roundw
      case rel => exact ⟨k + 1, by omega, by go_num, HE⟩
      case measure => simp [intOf]; omega
    · obtain rfl : k = m := by omega
      have HT : Hid (rows.take k = rows) := by unfold Hid; rw [HM.out, List.take_length]
      have HE := hC
      rw [HT.out] at HE
      clear hC
      go_wp2_with fail
      go_ret
      exact ⟨_, rfl, HE.out⟩

theorem an4 (f : Nat → Int) : an 4 f = #[.int .i64 (f 0), .int .i64 (f 1), .int .i64 (f 2), .int .i64 (f 3)] := rfl

theorem arr4_set {W : World} {g : Nat} {t : TypeId} {f : Nat → Int} (h : ArrI W g t 4 f) (G : Nat → Int) : ArrI ((((W.setCell ⟨g, 0, none⟩ (.int .i64 (G 0))).setCell ⟨g, 1, none⟩ (.int .i64 (G 1))).setCell ⟨g, 2, none⟩ (.int .i64 (G 2))).setCell ⟨g, 3, none⟩ (.int .i64 (G 3))) g t 4 G :=
  ((((h.set 0 (G 0)).set 1 (G 1)).set 2 (G 2)).set 3 (G 3)).congr (fun j hj => by
    have : j = 0 ∨ j = 1 ∨ j = 2 ∨ j = 3 := by omega
    rcases this with rfl | rfl | rfl | rfl <;> rfl)

set_option maxRecDepth 100000 in
set_option maxHeartbeats 2000000 in
theorem whash_any (q n d b s g B cap : Nat) (mark : Int) (a : Option Addr) (rows : List (List Int)) (w : World) (ok : SpgOk q n d) (hs : SpgAt w s b q n d) (hw : WlkAt w g B s) (hlen : rows.flatten.length ≤ 17592186044300) (hrl : rows.length ≤ 17592186044300) (hfit : Fits (mark :: rows.flatten)) (hl : LstR w.heap.size w a cap rows) :
    Calls Tryz.prog 226 #[.pointer (some ⟨g, 0, none⟩), .int .i64 mark, .slice a rows.length cap] w fun e w' => e = .returned (.agg (an 4 (zat (digl q n (mark :: rows.flatten))))) ∧ Below w.heap.size w w' := by
  have h3 : 3 ≤ q := by have := ok.h23; omega
  have hm := ok.hm
  have HOK := hid ok
  have HS := hid hs
  have HW := hid hw
  have HFT := hid hfit
  have HL := hid hl
  have HLE := hid hlen
  have hgl := hw.lt
  obtain ⟨L, hL⟩ : ∃ L, L = mark :: rows.flatten := ⟨_, rfl⟩
  rw [← hL]
  have HLQ := hid hL
  clear ok hs hw hfit hl hlen hL
  go_enter Tryz.func226, Tryz.ntmps226
  go_wp2_with fail
  have HA0 := hid (ArrI.new w 4 236 (fun _ => 0))
  rw [an4] at HA0
  have HB0 : Hid (Below w.heap.size w (w.alloc (.cells #[.int .i64 0, .int .i64 0, .int .i64 0, .int .i64 0] 236))) := (Below.refl _ _).alloc (Nat.le_refl _) _
  generalize w.alloc (.cells #[.int .i64 0, .int .i64 0, .int .i64 0, .int .i64 0] 236) = W0 at *
  have hL := HLQ.out
  have HLL : Hid (L.length ≤ 17592186044400) := by unfold Hid; rw [hL]; simp only [List.length_cons]; have := HLE.out; omega
  have HFL : Hid (Fits L) := by unfold Hid; rw [hL]; exact HFT.out
  have hne : w.heap.size ≠ g := by omega
  have HFI : Hid (∀ W, Below W0.heap.size W0 W → Calls Tryz.prog 9 #[.pointer (some ⟨s, 0, none⟩)] W fun e w' => e = .returned (.pointer (some ⟨b, 0, none⟩)) ∧ w' = W) := fun W h => sfield_any q n d b s W ((HS.out.keep HB0.out).keep h)
  have HJ : Hid (∀ W, Below W0.heap.size W0 W → Calls Tryz.prog 261 #[.int .i64 mark, .slice a rows.length cap] W fun e w' => ∃ v, e = .returned v ∧ Hid (w'.ownsRow W.heap.size 3 1 v L.length (L.map (Value.int .i64))) ∧ Below W0.heap.size W0 w') := fun W h => by
    have hb := HB0.out.trans (h.mono HB0.out.size)
    refine (joined_any mark cap a rows W HLE.out hrl ((HL.out.below hb).mono hb.size)).mono ?_
    rintro e w' ⟨v, rfl, h1, h2⟩
    rw [← hL] at h1
    exact ⟨v, rfl, h1, h.trans (h2.mono h.size)⟩
  have HH : Hid (∀ (W : World) (v : Value) (bs : Nat), Hid (W.ownsRow bs 3 1 v L.length (L.map (Value.int .i64))) → Below W0.heap.size W0 W → Calls Tryz.prog 116 #[.pointer (some ⟨s, 0, none⟩), v] W fun e w' => ∃ x : Nat, e = .returned (.slice (some ⟨x, 0, none⟩) 4 4) ∧ Hid (RowB w'.heap.size w' (some ⟨x, 0, none⟩) (digl q n L)) ∧ Below W0.heap.size W0 w') := fun W v bs h0 h => by
    obtain ⟨a2, c2, rfl, hl2⟩ := lst_of_owns h0.out
    refine (shash_any q n d b s L.length c2 a2 (zat L) W HOK.out ((HS.out.keep HB0.out).keep h) HLL.out (fun j _ => HFL.out.all j) (fun j hj => hl2.row j hj)).mono ?_
    rintro e w' ⟨rfl, h1, h2⟩
    refine ⟨_, rfl, ?_, h.trans (h2.mono h.size)⟩
    intro j hj
    rw [digl_len] at hj
    refine ⟨_, 0, rfl, h1.lt, ?_⟩
    rw [Nat.zero_add, h1.cell (by omega)]
    unfold digl
    rw [ls_at _ _ _ hj]
  have HD : Hid (∀ (W : World) (x : Nat), Hid (RowB W.heap.size W (some ⟨x, 0, none⟩) (digl q n L)) → Below W0.heap.size W0 W → Calls Tryz.prog 235 #[.pointer (some ⟨b, 0, none⟩), .slice (some ⟨x, 0, none⟩) 4 4] W fun e w' => e = .returned (.agg (an 4 (zat (digl q n L)))) ∧ Below W0.heap.size W0 w') := fun W x h0 h => by
    refine (digestof_any q b 4 (some ⟨x, 0, none⟩) (digl q n L) W h3 hm ((HS.out.keep HB0.out).keep h).p (digl_len _ _ _) (digl_fits h3 hm n L) h0.out).mono ?_
    rintro e w' ⟨rfl, h2⟩
    refine ⟨?_, h.trans (h2.mono h.size)⟩
    rw [an_congr (g := zat (digl q n L))]
    intro j hj
    have := congrArg (fun l => zat l j) (elr_digl h3 n L)
    simp only [elr] at this
    rw [ls_at _ _ _ (by rw [digl_len]; exact hj)] at this
    exact this
  have hKeep : ∀ W, Below W0.heap.size W0 W → W.cell? ⟨g, 0, none⟩ = some (.pointer (some ⟨s, 0, none⟩)) := fun W h => (h.cell (p := ⟨g, 0, none⟩) (by have := HB0.out.size; show g < _; omega)).trans ((HB0.out.cell (p := ⟨g, 0, none⟩) hgl).trans HW.out.c0)
  have HK := hid hKeep
  have HE : Hid (∀ W, Below W0.heap.size W0 W → ArrI W w.heap.size 236 4 (fun _ => 0)) := fun W h => HA0.out.block (h.block _ HA0.out.lt)
  have hb00 : Below W0.heap.size W0 W0.drew := (Below.refl _ _).drew
  clear hKeep hL HLQ HFT HL HLE HW HOK HS HFL HLL
  go_region_held3 (fun w' => w'.cell? ⟨g, 0, none⟩ = some (.pointer (some ⟨s, 0, none⟩))) (first | exact HK.out _ (by assumption) | go_keep)
    (first
      | (go_at_call 9; refine (HFI.out _ (by assumption)).mono ?_; rintro e w' ⟨rfl, rfl⟩)
      | (go_at_call 261; refine (HJ.out _ (by assumption)).mono ?_; rintro e w' ⟨v, rfl, hown, hbj⟩)
      | (go_at_call 116; refine (HH.out _ _ _ (by assumption) (by assumption)).mono ?_; rintro e w' ⟨x, rfl, hrowx, hbh⟩)
      | (go_at_call 235; refine (HD.out _ _ (by assumption) (by assumption)).mono ?_; rintro e w' ⟨rfl, hbd⟩; rw [an4]; have y0 := (HE.out _ hbd).frozen 0; have y1 := (HE.out _ hbd).frozen 1; have y2 := (HE.out _ hbd).frozen 2; have y3 := (HE.out _ hbd).frozen 3; have z0 := (HE.out _ hbd).cell (i := 0) (by decide); have z1 := (HE.out _ hbd).cell (i := 1) (by decide); have z2 := (HE.out _ hbd).cell (i := 2) (by decide); have z3 := (HE.out _ hbd).cell (i := 3) (by decide)))
  have HF4 := hid (arr4_set (HE.out _ hbd) (zat (digl q n L)))
  have HBE : Hid (Below w.heap.size w ((((w'.setCell ⟨w.heap.size, 0, none⟩ (.int .i64 (zat (digl q n L) 0))).setCell ⟨w.heap.size, 1, none⟩ (.int .i64 (zat (digl q n L) 1))).setCell ⟨w.heap.size, 2, none⟩ (.int .i64 (zat (digl q n L) 2))).setCell ⟨w.heap.size, 3, none⟩ (.int .i64 (zat (digl q n L) 3)))) :=
    ((((HB0.out.trans (hbd.mono HB0.out.size)).setCell (p := ⟨w.heap.size, 0, none⟩) (Nat.le_refl _) _).setCell (p := ⟨w.heap.size, 1, none⟩) (Nat.le_refl _) _).setCell (p := ⟨w.heap.size, 2, none⟩) (Nat.le_refl _) _).setCell (p := ⟨w.heap.size, 3, none⟩) (Nat.le_refl _) _
  clear y0 y1 y2 y3 z0 z1 z2 z3
  go_wp2_with fail
  refine bodyPost_ret (results_an rfl _ _ w.heap.size 236 4 _ _ (zat (digl q n L)) rfl HF4.out Tryz.underlying236 (by kernel_rfl)) rfl ?_
  exact ⟨rfl, HBE.out⟩

theorem lstR_one {w : World} {a : Option Addr} {cap : Nat} {row : List Int} (hl : Lst w.heap.size w a cap row) : LstR (w.heap.size + 1) (w.drew.alloc (.cells #[.slice a row.length cap] 23)) (some ⟨w.heap.size, 0, none⟩) 1 [row] := by
  have hb : Below w.heap.size w (w.drew.alloc (.cells #[.slice a row.length cap] 23)) := (Below.refl _ _).drew.alloc (Nat.le_refl _) _
  refine ⟨fun k hk => ?_, Nat.le_refl _, fun h => by cases h⟩
  obtain rfl : k = 0 := by simp at hk; omega
  refine ⟨w.heap.size, 0, a, cap, rfl, by omega, ?_, (hl.below hb).mono (by omega)⟩
  have := heap_alloc_new w.drew (.cells #[.slice a row.length cap] 23)
  unfold World.cell?
  rw [show (w.drew.alloc (.cells #[.slice a row.length cap] 23)).heap[(⟨w.heap.size, 0 + 0, none⟩ : Addr).block]? = some (.cells #[.slice a row.length cap] 23 (0, 0)) from this]
  rfl

set_option maxRecDepth 100000 in
set_option maxHeartbeats 2000000 in
theorem seerow_any (q n d b s g B cap x : Nat) (a : Option Addr) (row : List Int) (M : Nat → Nat → Option (List Int)) (w : World) (ok : SpgOk q n d) (hs : SpgAt w s b q n d) (hw : WlkAt w g B s) (hM : MapIs w B M) (hx : x ≤ 1000000) (hlen : row.length ≤ 17592186044000) (hfit : Fits row) (hl : Lst w.heap.size w a cap row) :
    Calls Tryz.prog 184 #[.pointer (some ⟨g, 0, none⟩), .int .i64 (x : Int), .slice a row.length cap] w fun e w' => e = .returned (.tuple #[]) ∧ MapIs w' B (upd M x (x + 1) (digl q n (0 :: row))) ∧ w.grownBy w' (some B) := by
  have c1 := hw.c1
  have hgl := hw.lt
  have hBl := hM.lt
  have hBg : B ≠ g := fun e => by
    obtain ⟨es, ck, h1, _⟩ := hM
    unfold WlkAt at hw
    rw [e, hw] at h1
    cases h1
  have HB1 : Hid (Below w.heap.size w (w.drew.alloc (.cells #[.slice a row.length cap] 23))) := (Below.refl _ _).drew.alloc (Nat.le_refl _) _
  have HH : Hid (Calls Tryz.prog 226 #[.pointer (some ⟨g, 0, none⟩), .int .i64 0, .slice (some ⟨w.heap.size, 0, none⟩) 1 1] (w.drew.alloc (.cells #[.slice a row.length cap] 23)) fun e w' => e = .returned (.agg #[.int .i64 (zat (digl q n (0 :: row)) 0), .int .i64 (zat (digl q n (0 :: row)) 1), .int .i64 (zat (digl q n (0 :: row)) 2), .int .i64 (zat (digl q n (0 :: row)) 3)]) ∧ w'.cell? ⟨g, 1, none⟩ = some (.map (some B)) ∧ ∃ w2, (Instr.mapUpdate 277 (.map (some B)) (.agg #[.int .i64 (x : Int), .int .i64 ((x : Int) + 1)]) (.agg #[.int .i64 (zat (digl q n (0 :: row)) 0), .int .i64 (zat (digl q n (0 :: row)) 1), .int .i64 (zat (digl q n (0 :: row)) 2), .int .i64 (zat (digl q n (0 :: row)) 3)])).run Tryz.prog w' = .ok () w2 ∧ w2.cell? ⟨g, 1, none⟩ = some (.map (some B)) ∧ Hid (MapIs w2 B (upd M x (x + 1) (digl q n (0 :: row))) ∧ w.grownBy w2 (some B))) := by
    have hlr := lstR_one hl
    have e0 : (0 :: row) = 0 :: [row].flatten := by simp
    refine (whash_any q n d b s g B 1 0 (some ⟨w.heap.size, 0, none⟩) [row] (w.drew.alloc (.cells #[.slice a row.length cap] 23)) ok (hs.keep HB1.out) (hw.block (HB1.out.block _ hgl)) (by simp; omega) (by simp) (by rw [← e0]; exact fits_cons (by omega) hfit) ?_).mono ?_
    · have hsz : (w.drew.alloc (.cells #[.slice a row.length cap] 23)).heap.size = w.heap.size + 1 := by simp
      rw [hsz]
      exact hlr
    · rintro e w' ⟨rfl, hb⟩
      rw [← e0]
      have hb2 := HB1.out.trans (hb.mono HB1.out.size)
      obtain ⟨w2, h1, h2, h3⟩ := (hM.below hb2 hBl).update (a := x) (b := x + 1) (by omega) (by omega) (digl q n (0 :: row))
      rw [an4, show gk x (x + 1) = .agg #[.int .i64 (x : Int), .int .i64 ((x : Int) + 1)] from by simp [gk]] at h1
      have c2 := (hb2.cell (p := ⟨g, 1, none⟩) hgl).trans c1
      exact ⟨rfl, c2, w2, h1, (gb_cell h3 (p := ⟨g, 1, none⟩) (by have := hb2.size; show g < _; omega) (Ne.symm hBg)).trans c2, h2, gb_trans (gb_below hb2) h3⟩
  have hwr : IntKind.i64.wrap ((x : Int) + 1) = (x : Int) + 1 := by rw [IntKind.wrap_i64]; omega
  clear ok hs hw hM hfit hl HB1
  generalize digl q n (0 :: row) = DL at *
  go_enter Tryz.func184, Tryz.ntmps184
  go_wp2_with fail
  go_region_held3 (fun w' => w'.cell? ⟨g, 1, none⟩ = some (.map (some B))) (go_keep)
    (first
      | (go_at_call 226; refine HH.out.mono ?_; rintro e w' ⟨rfl, c2, w2, hrun, c3, hE⟩))
  go_wp2_with fail
  go_end0
  exact ⟨rfl, hE.out⟩

end Go.Proofs.YtpgnabmkfkcogaaGreatDoor
