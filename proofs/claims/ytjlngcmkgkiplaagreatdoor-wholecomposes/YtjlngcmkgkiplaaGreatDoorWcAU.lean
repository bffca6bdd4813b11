
import Derived.Test.YtjlngcmkgkiplaaGreatDoorRxJ
import Derived.Test.YtjlngcmkgkiplaaGreatDoorRxK
import Derived.Test.YtjlngcmkgkiplaaGreatDoorRxL
import Derived.Test.YtjlngcmkgkiplaaGreatDoorWcAK
import Derived.Test.YtjlngcmkgkiplaaGreatDoorTres
import Derived.Maps.AppendAt
import Derived.Test.YtjlngcmkgkiplaaGreatDoorWcAQ
import Derived.Test.YtjlngcmkgkiplaaGreatDoorWcAP
import Derived.Deep.OwnRows
import Derived.Test.YtjlngcmkgkiplaaGreatDoorWcAI
set_option maxRecDepth 1000000
set_option maxHeartbeats 8000000
namespace Go.Proofs.YtjlngcmkgkiplaaGreatDoor
open Go.RowKit Go.Maps
theorem wpList_appT {ops : Array Oper} {rest : List Oper} {o : Oper} {a : Act} {w w2 : World} {Q : Exit -> Act -> World -> Prop} (hgd : o.guard = none) (s x : Operand)
  (ho : o.op = .call { callee := .builtin .append, args := #[s, x], argTypes := #[26, 26] }) (hty : o.type = 26) (v u r : Value) (hs : a.eval s = v) (hx : a.eval x = u) (hrun : (Builtin.append_ #[26, 26] 26 #[v, u]).run Tryz.prog w = .ok r w2)
  (h : wpList Tryz.prog ops Q rest (a.put o.dst r) w2) : wpList Tryz.prog ops Q (o :: rest) a w := by
 refine wpList_plain hgd fun K hK => ?_
 unfold Oper.wp
 simp [execOp, ho, hty, resolve, invoke, builtin, hs, hx, hrun, Result.andThen]
 exact hK _ _ h
structure SdI (p b V : Nat) (L : List InsZ) (size out : Int) (r n : List Int) (aL : Option Addr) (cL : Nat) (ar : Option Addr) (cr : Nat) (an : Option Addr) (cn : Nat) (w : World) (l : List Int) (v : Value) (W : World) : Prop where
 own : W.ownsRow w.heap.size 3 1 v l.length (l.map (Value.int .i64))
 bel : Below w.heap.size w W
theorem SdI.view {p b V : Nat} {L : List InsZ} {size out : Int} {r n : List Int} {aL : Option Addr} {cL : Nat} {ar : Option Addr} {cr : Nat} {an : Option Addr} {cn : Nat} {w W : World} {l : List Int} {v : Value} (h : SdI p b V L size out r n aL cL ar cr an cn w l v W) (hV : VW p b V L size out r n aL cL ar cr an cn w) : VW p b V L size out r n aL cL ar cr an cn W := hV.below h.bel
theorem sd_app {p b V : Nat} {L : List InsZ} {size out : Int} {r n : List Int} {aL : Option Addr} {cL : Nat} {ar : Option Addr} {cr : Nat} {an : Option Addr} {cn : Nat} {w W : World} {l m : List Int} {v : Value} {G : Nat} (h : SdI p b V L size out r n aL cL ar cr an cn w l v W) (hG : W.heap[G]? = some (.cells (m.map (Value.int .i64)).toArray 3 (0, 0))) (hl : l.length + m.length <= 17592186044416) :
  ∃ v' W', (Builtin.append_ #[26, 26] 26 #[v, .slice (some ⟨G, 0, none⟩) m.length m.length]).run Tryz.prog W = .ok v' W' /\ SdI p b V L size out r n aL cL ar cr an cn w (l ++ m) v' W' := by
 obtain ⟨i0, hi0, hz0, hz1, hz2⟩ := info_parts Tryz.infoInt
 obtain ⟨v', W', hrun, hown, hgrow, _, _⟩ := run_append_own_at W w.heap.size 26 26 3 i0 (.int .i64 0) 1 8 Tryz.underlying26 hi0 hz0 hz1 hz2 rfl (by decide) v l.length (l.map (Value.int .i64)) h.own ⟨G, 0, none⟩ m.length m.length (m.map (Value.int .i64)) (by simp) (by
  intro j u hj
  have hadd : (⟨G, 0, none⟩ : Addr).add j = ⟨G, j, none⟩ := by unfold Addr.add; split <;> simp_all
  rw [hadd]
  simp only [World.cell?, hG]
  simpa using hj) (by intro u hu; obtain ⟨x, _, rfl⟩ := List.mem_map.1 hu; rfl) (by unfold maxLen; omega) (by omega) h.bel.size
 refine ⟨v', W', hrun, ⟨?_, h.bel.grown hgrow h.bel.size (fun k hk => (World.ownsRow.lt h.own k hk).1)⟩⟩
 rw [List.length_append, List.map_append]
 exact hown
theorem SdI.step {p b V : Nat} {L : List InsZ} {size out : Int} {r n : List Int} {aL : Option Addr} {cL : Nat} {ar : Option Addr} {cr : Nat} {an : Option Addr} {cn : Nat} {w W W' : World} {l : List Int} {v : Value} (h : SdI p b V L size out r n aL cL ar cr an cn w l v W) (e : Below W.heap.size W W') : SdI p b V L size out r n aL cL ar cr an cn w l v W' :=
 ⟨World.ownsRow.kept (row := none) h.own (gb_of_below e) (by cases v.ownBlock <;> simp), h.bel.trans (e.mono h.bel.size)⟩
def so6 (p : Nat) (r : List Int) : List Int := [ord1 p (zat r 12) (zat r 13), ord2 p (zat r 12) (zat r 16) (zat r 13) (zat r 17), ord1 p (zat r 13) (zat r 14), ord2 p (zat r 13) (zat r 17) (zat r 14) (zat r 18), ord1 p (zat r 14) (zat r 15), ord2 p (zat r 14) (zat r 18) (zat r 15) (zat r 19)]
theorem so6_take (p : Nat) (r : List Int) (j : Nat) (h : j < 3) : (so6 p r).take (2 * (j + 1)) = (so6 p r).take (2 * j) ++ [ord1 p (zat r (12 + j)) (zat r (13 + j)), ord2 p (zat r (12 + j)) (zat r (16 + j)) (zat r (13 + j)) (zat r (17 + j))] := by
 have : j = 0 ∨ j = 1 ∨ j = 2 := by omega
 rcases this with rfl | rfl | rfl <;> rfl
theorem vsaid_any (p b V : Nat) (L : List InsZ) (size out : Int) (r n : List Int) (aL : Option Addr) (cL : Nat) (ar : Option Addr) (cr : Nat) (an : Option Addr) (cn : Nat) (w : World) (H : VF p L size out r n) (hV : VW p b V L size out r n aL cL ar cr an cn w) :
  Calls Tryz.prog 90 #[.pointer (some ⟨V, 0, none⟩)] w fun e w' => ∃ v, e = .returned v /\ SdI p b V L size out r n aL cL ar cr an cn w (rls p L size out r n) v w' := by
 obtain ⟨i0, hi0, hz0, hz1, hz2⟩ := info_parts Tryz.infoInt
 have h3 := H.h3
 have h4 := H.h4
 have hl := H.hl
 obtain ⟨br, orr, har, hrw⟩ := hV.rowAt H.hr
 subst har
 obtain ⟨bn, onn, han, hnw⟩ := hV.nxtAt H.hn
 subst han
 have hh1 := H.h1
 obtain ⟨R, hR⟩ : ∃ R : Ending -> World -> Prop, R = fun e w' => ∃ v, e = .returned v /\ SdI p b V L size out r n aL cL (some ⟨br, orr, none⟩) cr (some ⟨bn, onn, none⟩) cn w (rls p L size out r n) v w' := ⟨_, rfl⟩
 rw [<- hR]
 have HRR : Hid (∀ v W, SdI p b V L size out r n aL cL (some ⟨br, orr, none⟩) cr (some ⟨bn, onn, none⟩) cn w (rls p L size out r n) v W -> R (.returned v) W) := fun v W h => by rw [hR]; exact ⟨v, rfl, h⟩
 have HH := hid H
 have HV := hid hV
 have HRW := hid hrw
 have HNW := hid hnw
 obtain ⟨nL, hnL⟩ := exE (L.length)
 have HNL := hid hnL
 have hlr : (r.length : Int) = 20 + (nL : Int) := by have := H.hr; omega
 have HLR := hid hlr
 obtain ⟨c0, c1, c2, c3, c4, c5⟩ := hV.cells
 rw [<- hnL] at hl c2
 have HXC : Hid (∀ W, Below w.heap.size w W -> W.cell? ⟨V, 0, none⟩ = some (.pointer (some ⟨b, 0, none⟩)) /\ W.cell? ⟨V, 4, none⟩ = some (.slice (some ⟨br, orr, none⟩) r.length cr) /\ W.cell? ⟨V, 5, none⟩ = some (.slice (some ⟨bn, onn, none⟩) n.length cn)) := fun W h => by
  have hc := (hV.below h).cells
  exact ⟨hc.1, hc.2.2.2.2.1, hc.2.2.2.2.2⟩
 have HXR : Hid (∀ W i, Below w.heap.size w W -> i < 20 + L.length -> W.cell? ⟨br, orr + i, none⟩ = some (.int .i64 (zat r i))) := fun W i h hi => (h.cell (p := ⟨br, orr + i, none⟩) (World.block_lt_of_cell? _ _ (hrw i hi))).trans (hrw i hi)
 have HXN : Hid (∀ W i, Below w.heap.size w W -> i < 20 + L.length -> W.cell? ⟨bn, onn + i, none⟩ = some (.int .i64 (zat n i))) := fun W i h hi => (h.cell (p := ⟨bn, onn + i, none⟩) (World.block_lt_of_cell? _ _ (hnw i hi))).trans (hnw i hi)
 obtain ⟨lr, hlr'⟩ : ∃ lr, lr = r.length := ⟨_, rfl⟩
 obtain ⟨ln, hln'⟩ : ∃ ln, ln = n.length := ⟨_, rfl⟩
 have HLN' : Hid ((ln : Int) = 20 + (nL : Int)) := by have := H.hn; unfold Hid; omega
 rw [<- hlr'] at c4 HXC hlr HLR
 rw [<- hln'] at c5 HXC
 clear hR H hV hrw hnw hlr hlr' hln' hnL
 go_enter Tryz.func90, Tryz.ntmps90
 go_wp2_with fail
 go_loopw [3, 12] (fun ov iv wr => ∃ k : Nat, k <= nL /\ iv = .int .i64 k /\ Hid (SdI p b V L size out r n aL cL (some ⟨br, orr, none⟩) cr (some ⟨bn, onn, none⟩) cn w (ls (chz p r) k) ov wr)) (fun _ iv _ => nL - (intOf iv).toNat)
 case atStart => exact ⟨0, Nat.zero_le _, rfl, ⟨World.ownsRow_nil _ _ _ _, Below.refl _ _⟩⟩
 case round =>
  obtain ⟨k, hk, rfl, HI⟩ := hrel
  by_cases hlt : k < nL
  ·have hlt2 : (k : Int) < (nL : Int) := by omega
   have hks : IntKind.i64.wrap ((k : Int) + 1) = (k : Int) + 1 := by rw [IntKind.wrap_i64]; omega
   obtain ⟨m, hm⟩ := exE (20 + k)
   have em : 20 + (k : Int) = (m : Int) := by omega
   have wm : IntKind.i64.wrap (m : Int) = (m : Int) := by rw [IntKind.wrap_i64]; omega
   have lm : (m : Int) < (lr : Int) := by have := HLR.out; omega
   obtain ⟨d0, d4, d5⟩ := HXC.out wr HI.out.bel
   have dm := HXR.out wr m HI.out.bel (by have := HNL.out; omega)
   have HCH := hid (vchoice_any p b V L size out r n aL cL (some ⟨br, orr, none⟩) cr (some ⟨bn, onn, none⟩) cn wr HH.out (HI.out.view HV.out) (zat r m) (HH.out.fr m))
   have HCE : Hid ((zat r m * (zat r m - 1)) % (p : Int) = chz p r k) := by unfold Hid; rw [hm]; rfl
   have HLS : Hid (ls (chz p r) (k + 1) = ls (chz p r) k ++ [chz p r k]) := ls_succ _ _
   have HLK : Hid ((ls (chz p r) k).length <= 4398046511104) := by unfold Hid; rw [ls_len]; omega
   obtain ⟨ck, hck⟩ := exE (chz p r k)
   rw [<- hck] at HCE HLS
   rw [HCE.out] at HCH
   generalize zat r m = zm at *
   generalize ls (chz p r) k = lk at *
   clear hck HCE hm
   go_wp2_with fail
   refine HCH.out.mono ?_
   rintro e w1 ⟨rfl, mm, rfl⟩
   have HI1 := hid (HI.out.step (below_drewN (Below.refl _ _) mm))
   generalize wr.drewN mm = w1 at *
   obtain ⟨W2, hW2⟩ := exE (w1.alloc (.cells #[.int .i64 ck] 3))
   have hb2 := blA hW2
   have hI2 := HI1.out.step hb2
   obtain ⟨v', W', hrun, hI3⟩ := sd_app (m := [ck]) (G := w1.heap.size) hI2 (by rw [hW2]; exact heap_alloc_new w1 _) (by have := HLK.out; simp only [List.length_cons, List.length_nil]; omega)
   rw [<- HLS.out] at hI3
   have HI3 := hid hI3
   rw [hW2] at hrun
   simp only [List.length_cons, List.length_nil, Nat.zero_add] at hrun
   clear hb2 hI2 hI3 hW2 W2 HI HI1 HCH d0 d4 d5 dm
   go_wp2_with (at_builtin; refine wpList_appT rfl _ _ rfl rfl _ _ v' rfl rfl hrun ?_)
   go_wp2_with fail
   go_roundw
   case rel => exact ⟨k + 1, by omega, by go_num, HI3⟩
   case measure => simp [intOf]; omega
  ·obtain rfl : k = nL := by omega
   have hlt2 : ¬ (k : Int) < (k : Int) := by omega
   have HHE := hid (vhere_any p b V L size out r n aL cL (some ⟨br, orr, none⟩) cr (some ⟨bn, onn, none⟩) cn wr HH.out (HI.out.view HV.out))
   have HLK : Hid ((ls (chz p r) k).length <= 4398046511104) := by unfold Hid; rw [ls_len]; omega
   obtain ⟨l1, hl1⟩ : ∃ l, l = ls (chz p r) k := ⟨_, rfl⟩
   have HL1 := hid hl1
   rw [<- hl1] at HI HLK
   clear hl1
   go_wp2_with fail
   refine HHE.out.mono ?_
   rintro e w1 ⟨G, rfl, hG1, hG2, hb1⟩
   have hI1 := HI.out.step hb1
   obtain ⟨h6, hh6⟩ : ∃ l : List Int, l = [(smt p L r (fun _ _ => 1) - 1) % (p : Int), (zat r 3 - smt p L r (fun _ => tvC p r 0)) % (p : Int), (zat r 4 - smt p L r (fun _ => tvC p r 1)) % (p : Int), (zat r 5 - smt p L r (fun _ => tvC p r 2)) % (p : Int), smt p L r (fun _ => tvW p r), smt p L r (tvM p r)] := ⟨_, rfl⟩
   rw [<- hh6] at hG2 ⊢
   have e6 : h6.length = 6 := by rw [hh6]; rfl
   obtain ⟨v2, w2, hrun, hI2⟩ := sd_app hI1 hG2 (by have := HLK.out; omega)
   rw [e6] at hrun ⊢
   have HI2 := hid hI2
   have HH6 := hid hh6
   have HE6 := hid e6
   clear hI1 hI2 hG1 hG2 hb1 HHE HI hh6 e6
   go_wp2_with (at_builtin; refine wpList_appT rfl _ _ rfl rfl _ _ v2 rfl rfl hrun ?_)
   clear hrun
   go_wp2_with fail
   go_loopw [3, 33] (fun ov iv wr => ∃ j : Nat, j <= 3 /\ iv = .int .i64 j /\ Hid (SdI p b V L size out r n aL cL (some ⟨br, orr, none⟩) cr (some ⟨bn, onn, none⟩) cn w (l1 ++ h6 ++ (so6 p r).take (2 * j)) ov wr)) (fun _ iv _ => 3 - (intOf iv).toNat)
   case atStart => exact ⟨0, by omega, rfl, by unfold Hid; rw [show (so6 p r).take (2 * 0) = [] from rfl, List.append_nil]; exact HI2.out⟩
   case round =>
    obtain ⟨j, hj, rfl, HI⟩ := hrel
    obtain ⟨wo, hwo⟩ := exE (wr)
    by_cases hlj : j < 3
    ·have hlj2 : (j : Int) < 3 := by omega
     have hjs : IntKind.i64.wrap ((j : Int) + 1) = (j : Int) + 1 := by rw [IntKind.wrap_i64]; omega
     obtain ⟨a1, ha1⟩ : ∃ a, a = 12 + j := ⟨_, rfl⟩
     obtain ⟨a2, ha2⟩ : ∃ a, a = 16 + j := ⟨_, rfl⟩
     obtain ⟨a3, ha3⟩ : ∃ a, a = 13 + j := ⟨_, rfl⟩
     obtain ⟨a4, ha4⟩ : ∃ a, a = 17 + j := ⟨_, rfl⟩
     have e1 : 12 + (j : Int) = (a1 : Int) := by omega
     have e2 : 16 + (j : Int) = (a2 : Int) := by omega
     have e3 : (a1 : Int) + 1 = (a3 : Int) := by omega
     have e4 : (a2 : Int) + 1 = (a4 : Int) := by omega
     have wp1 : IntKind.i64.wrap (a1 : Int) = (a1 : Int) := by rw [IntKind.wrap_i64]; omega
     have lt1 : (a1 : Int) < (lr : Int) := by have := HLR.out; omega
     have wp2 : IntKind.i64.wrap (a2 : Int) = (a2 : Int) := by rw [IntKind.wrap_i64]; omega
     have lt2 : (a2 : Int) < (lr : Int) := by have := HLR.out; omega
     have wp3 : IntKind.i64.wrap (a3 : Int) = (a3 : Int) := by rw [IntKind.wrap_i64]; omega
     have lt3 : (a3 : Int) < (lr : Int) := by have := HLR.out; omega
     have wp4 : IntKind.i64.wrap (a4 : Int) = (a4 : Int) := by rw [IntKind.wrap_i64]; omega
     have lt4 : (a4 : Int) < (lr : Int) := by have := HLR.out; omega
     have HSO : Hid (∀ W, Below w.heap.size w W -> Calls Tryz.prog 116 #[.pointer (some ⟨V, 0, none⟩), .int .i64 (zat r a1), .int .i64 (zat r a2), .int .i64 (zat r a3), .int .i64 (zat r a4)] W (NewL [ord1 p (zat r a1) (zat r a3), ord2 p (zat r a1) (zat r a2) (zat r a3) (zat r a4)] W)) := fun W h => vsorted_any p b V L size out r n aL cL (some ⟨br, orr, none⟩) cr (some ⟨bn, onn, none⟩) cn W HH.out (HV.out.below h) _ _ _ _ ⟨HH.out.fr _, HH.out.fr _, HH.out.fr _, HH.out.fr _⟩
     have HTK : Hid ((so6 p r).take (2 * (j + 1)) = (so6 p r).take (2 * j) ++ [ord1 p (zat r a1) (zat r a3), ord2 p (zat r a1) (zat r a2) (zat r a3) (zat r a4)]) := by unfold Hid; rw [ha1, ha2, ha3, ha4]; exact so6_take p r j hlj
     have HXS : Hid (∀ W, Below w.heap.size w W -> (W.cell? ⟨V, 4, none⟩ = some (.slice (some ⟨br, orr, none⟩) lr cr) /\ W.cell? ⟨br, orr + a1, none⟩ = some (.int .i64 (zat r a1)) /\ W.cell? ⟨br, orr + a2, none⟩ = some (.int .i64 (zat r a2)) /\ W.cell? ⟨br, orr + a3, none⟩ = some (.int .i64 (zat r a3)) /\ W.cell? ⟨br, orr + a4, none⟩ = some (.int .i64 (zat r a4)))) := fun W h => ⟨(HXC.out W h).2.1, HXR.out W a1 h (by omega), HXR.out W a2 h (by omega), HXR.out W a3 h (by omega), HXR.out W a4 h (by omega)⟩
     have HLL : Hid ((l1 ++ h6 ++ (so6 p r).take (2 * j)).length <= 4398046511204) := by
      unfold Hid
      rw [List.length_append, List.length_append, HE6.out, List.length_take]
      have := HLK.out
      omega
     generalize zat r a1 = z1 at *
     generalize zat r a2 = z2 at *
     generalize zat r a3 = z3 at *
     generalize zat r a4 = z4 at *
     generalize ord1 p z1 z3 = o1 at *
     generalize ord2 p z1 z2 z3 z4 = o2 at *
     clear ha1 ha2 ha3 ha4 hwo
     obtain ⟨x4, y1, y2, y3, y4⟩ := HXS.out wr HI.out.bel
     have HBD : Hid (Below w.heap.size w wr.drew) := HI.out.bel.drew
     have HID : Hid (SdI p b V L size out r n aL cL (some ⟨br, orr, none⟩) cr (some ⟨bn, onn, none⟩) cn w (l1 ++ h6 ++ (so6 p r).take (2 * j)) u3 wr.drew) := HI.out.step (Below.refl _ _).drew
     go_wp2_with fail
     refine wp_region_held_drew (S := (fun W => W.cell? ⟨V, 4, none⟩ = some (.slice (some ⟨br, orr, none⟩) lr cr) /\ W.cell? ⟨br, orr + a1, none⟩ = some (.int .i64 z1) /\ W.cell? ⟨br, orr + a2, none⟩ = some (.int .i64 z2) /\ W.cell? ⟨br, orr + a3, none⟩ = some (.int .i64 z3) /\ W.cell? ⟨br, orr + a4, none⟩ = some (.int .i64 z4))) (by kernel_rfl) ⟨x4, y1, y2, y3, y4⟩ (fun hHeld => ?_)
     refine tkU 0 (u3) rfl (fun W hC => by go_simp) hHeld ?_
     simp only [Act.put, aS0, aS1, aS2]
     refine tkU 1 (.pointer (some ⟨V, 0, none⟩)) rfl (fun W hC => by go_simp) hHeld ?_
     simp only [Act.put, aS0, aS1, aS2]
     refine tkU 2 (.pointer (some ⟨V, 0, none⟩)) rfl (fun W hC => by go_simp) hHeld ?_
     simp only [Act.put, aS0, aS1, aS2]
     refine tkU 3 (.pointer (some ⟨V, 0, none⟩)) rfl (fun W hC => by go_simp) hHeld ?_
     simp only [Act.put, aS0, aS1, aS2]
     refine tkU 4 (.pointer (some ⟨V, 4, none⟩)) rfl (fun W hC => by go_simp) hHeld ?_
     simp only [Act.put, aS0, aS1, aS2]
     refine tkU 5 (.slice (some ⟨br, orr, none⟩) lr cr) rfl (fun W hC => by (obtain ⟨g0, g1, g2, g3, g4⟩ := hC); go_simp) hHeld ?_
     simp only [Act.put, aS0, aS1, aS2]
     refine tkU 6 (.int .i64 (j : Int)) rfl (fun W hC => by go_simp) hHeld ?_
     simp only [Act.put, aS0, aS1, aS2]
     refine tkU 7 (.int .i64 (a1 : Int)) rfl (fun W hC => by go_simp) hHeld ?_
     simp only [Act.put, aS0, aS1, aS2]
     refine tkU 8 (.pointer (some ⟨br, orr + a1, none⟩)) rfl (fun W hC => by go_simp) hHeld ?_
     simp only [Act.put, aS0, aS1, aS2]
     refine tkU 9 (.int .i64 z1) rfl (fun W hC => by (obtain ⟨g0, g1, g2, g3, g4⟩ := hC); go_simp) hHeld ?_
     simp only [Act.put, aS0, aS1, aS2]
     refine tkU 10 (.pointer (some ⟨V, 0, none⟩)) rfl (fun W hC => by go_simp) hHeld ?_
     simp only [Act.put, aS0, aS1, aS2]
     refine tkU 11 (.pointer (some ⟨V, 0, none⟩)) rfl (fun W hC => by go_simp) hHeld ?_
     simp only [Act.put, aS0, aS1, aS2]
     refine tkU 12 (.pointer (some ⟨V, 4, none⟩)) rfl (fun W hC => by go_simp) hHeld ?_
     simp only [Act.put, aS0, aS1, aS2]
     refine tkU 13 (.slice (some ⟨br, orr, none⟩) lr cr) rfl (fun W hC => by (obtain ⟨g0, g1, g2, g3, g4⟩ := hC); go_simp) hHeld ?_
     simp only [Act.put, aS0, aS1, aS2]
     refine tkU 14 (.int .i64 (j : Int)) rfl (fun W hC => by go_simp) hHeld ?_
     simp only [Act.put, aS0, aS1, aS2]
     refine tkU 15 (.int .i64 (a2 : Int)) rfl (fun W hC => by go_simp) hHeld ?_
     simp only [Act.put, aS0, aS1, aS2]
     refine tkU 16 (.pointer (some ⟨br, orr + a2, none⟩)) rfl (fun W hC => by go_simp) hHeld ?_
     simp only [Act.put, aS0, aS1, aS2]
     refine tkU 17 (.int .i64 z2) rfl (fun W hC => by (obtain ⟨g0, g1, g2, g3, g4⟩ := hC); go_simp) hHeld ?_
     simp only [Act.put, aS0, aS1, aS2]
     refine tkU 18 (.pointer (some ⟨V, 0, none⟩)) rfl (fun W hC => by go_simp) hHeld ?_
     simp only [Act.put, aS0, aS1, aS2]
     refine tkU 19 (.pointer (some ⟨V, 0, none⟩)) rfl (fun W hC => by go_simp) hHeld ?_
     simp only [Act.put, aS0, aS1, aS2]
     refine tkU 20 (.pointer (some ⟨V, 4, none⟩)) rfl (fun W hC => by go_simp) hHeld ?_
     simp only [Act.put, aS0, aS1, aS2]
     refine tkU 21 (.slice (some ⟨br, orr, none⟩) lr cr) rfl (fun W hC => by (obtain ⟨g0, g1, g2, g3, g4⟩ := hC); go_simp) hHeld ?_
     simp only [Act.put, aS0, aS1, aS2]
     refine tkU 22 (.int .i64 (j : Int)) rfl (fun W hC => by go_simp) hHeld ?_
     simp only [Act.put, aS0, aS1, aS2]
     refine tkU 23 (.int .i64 (a1 : Int)) rfl (fun W hC => by go_simp) hHeld ?_
     simp only [Act.put, aS0, aS1, aS2]
     refine tkU 24 (.int .i64 (a3 : Int)) rfl (fun W hC => by go_simp) hHeld ?_
     simp only [Act.put, aS0, aS1, aS2]
     refine tkU 25 (.pointer (some ⟨br, orr + a3, none⟩)) rfl (fun W hC => by go_simp) hHeld ?_
     simp only [Act.put, aS0, aS1, aS2]
     refine tkU 26 (.int .i64 z3) rfl (fun W hC => by (obtain ⟨g0, g1, g2, g3, g4⟩ := hC); go_simp) hHeld ?_
     simp only [Act.put, aS0, aS1, aS2]
     refine tkU 27 (.pointer (some ⟨V, 0, none⟩)) rfl (fun W hC => by go_simp) hHeld ?_
     simp only [Act.put, aS0, aS1, aS2]
     refine tkU 28 (.pointer (some ⟨V, 0, none⟩)) rfl (fun W hC => by go_simp) hHeld ?_
     simp only [Act.put, aS0, aS1, aS2]
     refine tkU 29 (.pointer (some ⟨V, 4, none⟩)) rfl (fun W hC => by go_simp) hHeld ?_
     simp only [Act.put, aS0, aS1, aS2]
     refine tkU 30 (.slice (some ⟨br, orr, none⟩) lr cr) rfl (fun W hC => by (obtain ⟨g0, g1, g2, g3, g4⟩ := hC); go_simp) hHeld ?_
     simp only [Act.put, aS0, aS1, aS2]
     refine tkU 31 (.int .i64 (j : Int)) rfl (fun W hC => by go_simp) hHeld ?_
     simp only [Act.put, aS0, aS1, aS2]
     refine tkU 32 (.int .i64 (a2 : Int)) rfl (fun W hC => by go_simp) hHeld ?_
     simp only [Act.put, aS0, aS1, aS2]
     refine tkU 33 (.int .i64 (a4 : Int)) rfl (fun W hC => by go_simp) hHeld ?_
     simp only [Act.put, aS0, aS1, aS2]
     refine tkU 34 (.pointer (some ⟨br, orr + a4, none⟩)) rfl (fun W hC => by go_simp) hHeld ?_
     simp only [Act.put, aS0, aS1, aS2]
     refine tkU 35 (.int .i64 z4) rfl (fun W hC => by (obtain ⟨g0, g1, g2, g3, g4⟩ := hC); go_simp) hHeld ?_
     simp only [Act.put, aS0, aS1, aS2]
     refine wpAnyH_ready (rs := [36]) (by kernel_rfl) (by simp) ?_
     refine AllReadyH.consU rfl (fun K' hK' => ?_) AllReadyH.nil
     go_simp
     refine (HSO.out _ HBD.out).mono ?_
     rintro e w3 ⟨G, rfl, hG1, hG2, hb3⟩
     have hI3 := HID.out.step hb3
     refine hK'.out _ _ (HXS.out _ hI3.bel) (fun hHeld => ?_)
     clear hK' K'
     (try simp only [Act.put, aS0, aS1, aS2])
     obtain ⟨v4, w4, hrun, hI4⟩ := sd_app hI3 hG2 (by have := HLL.out; simp only [List.length_cons, List.length_nil]; omega)
     simp only [List.length_cons, List.length_nil, Nat.zero_add] at hrun
     rw [List.append_assoc, <- HTK.out] at hI4
     have HI4 := hid hI4
     clear hI3 hI4 hG1 hG2 hb3
     refine wpAnyH_ready (rs := [37]) (by kernel_rfl) (by simp) ?_
     refine AllReadyH.consU rfl (fun K' hK' => ?_) AllReadyH.nil
     rw [if_pos (by rfl)]
     refine rg_appendU _ _ 26 26 rfl _ _ v4 rfl rfl hrun ?_
     refine hK'.out _ _ (HXS.out _ HI4.out.bel) (fun hHeld => ?_)
     clear hK' K' hrun
     simp only [Act.put, aS0, aS1, aS2]
     refine wpAnyH_ready (rs := [38]) (by kernel_rfl) (by simp) ?_
     refine AllReadyH.consU rfl (fun K' hK' => ?_) AllReadyH.nil
     go_simp
     refine hK'.out _ _ hHeld (fun _ => ?_)
     clear hK' K' hHeld
     refine wpAnyH_done (by kernel_rfl) ?_ _
     go_wp2_with fail
     go_roundw
     case rel => exact ⟨j + 1, by omega, by go_num, HI4⟩
     case measure => simp [intOf]; omega
    ·obtain rfl : j = 3 := by omega
     have hlj2 : ¬ ((3 : Nat) : Int) < 3 := by omega
     have hlj3 : ¬ (3 : Int) < 3 := by omega
     obtain ⟨l2, hl2⟩ : ∃ l, l = l1 ++ h6 ++ (so6 p r).take (2 * 3) := ⟨_, rfl⟩
     have HLL : Hid (l2.length <= 4398046511204) := by
      unfold Hid
      rw [hl2, List.length_append, List.length_append, HE6.out, List.length_take]
      have := HLK.out
      omega
     rw [<- hl2] at HI
     have HL2 := hid hl2
     clear hl2 hwo
     have HCX := hid (vonward_any p b V L size out r n aL cL (some ⟨br, orr, none⟩) cr (some ⟨bn, onn, none⟩) cn wr HH.out (HI.out.view HV.out))
     go_wp2_with fail
     refine HCX.out.mono ?_
     rintro e wa ⟨G, rfl, hG1, hG2, hb1⟩
     have hI1 := HI.out.step hb1
     obtain ⟨q4, hq4⟩ : ∃ l : List Int, l = [(smt p L n (fun k _ => (k : Int)) - smt p L r (tvN p r)) % (p : Int), (zat n 0 - smt p L r (fun _ => tvF p r)) % (p : Int), (zat n 1 - smt p L r (fun _ => tvA p r)) % (p : Int), (zat n 2 - smt p L r (fun _ => tvR r)) % (p : Int)] := ⟨_, rfl⟩
     rw [<- hq4] at hG2 ⊢
     have ek : q4.length = 4 := by rw [hq4]; rfl
     obtain ⟨vb, wb, hrun, hI2⟩ := sd_app hI1 hG2 (by have := HLL.out; omega)
     have HNX : Hid ((l2 ++ q4).length <= 4398046511304) := by unfold Hid; rw [List.length_append, ek]; have := HLL.out; omega
     rw [ek] at hrun ⊢
     have HI5 := hid hI2
     have HQq4 := hid hq4
     clear hI1 hI2 hG1 hG2 hb1 HCX hq4 ek
     go_wp2_with (at_builtin; refine wpList_appT rfl _ _ rfl rfl _ _ vb rfl rfl hrun ?_)
     clear hrun
     obtain ⟨l3, hl3⟩ : ∃ l, l = l2 ++ q4 := ⟨_, rfl⟩
     rw [<- hl3] at HI5 HNX
     have HL3 := hid hl3
     have HLL3 := HNX
     clear hl3 HNX
     have HSO : Hid (∀ W, Below w.heap.size w W -> Calls Tryz.prog 116 #[.pointer (some ⟨V, 0, none⟩), .int .i64 (zat r 15), .int .i64 (zat r 19), .int .i64 (zat n 12), .int .i64 (zat n 16)] W (NewL [ord1 p (zat r 15) (zat n 12), ord2 p (zat r 15) (zat r 19) (zat n 12) (zat n 16)] W)) := fun W h => vsorted_any p b V L size out r n aL cL (some ⟨br, orr, none⟩) cr (some ⟨bn, onn, none⟩) cn W HH.out (HV.out.below h) _ _ _ _ ⟨HH.out.fr _, HH.out.fr _, HH.out.fn _, HH.out.fn _⟩
     have HXS : Hid (∀ W, Below w.heap.size w W -> (W.cell? ⟨V, 4, none⟩ = some (.slice (some ⟨br, orr, none⟩) lr cr) /\ W.cell? ⟨V, 5, none⟩ = some (.slice (some ⟨bn, onn, none⟩) ln cn) /\ W.cell? ⟨br, orr + 15, none⟩ = some (.int .i64 (zat r 15)) /\ W.cell? ⟨br, orr + 19, none⟩ = some (.int .i64 (zat r 19)) /\ W.cell? ⟨bn, onn + 12, none⟩ = some (.int .i64 (zat n 12)) /\ W.cell? ⟨bn, onn + 16, none⟩ = some (.int .i64 (zat n 16)))) := fun W h => ⟨(HXC.out W h).2.1, (HXC.out W h).2.2, HXR.out W 15 h (by omega), HXR.out W 19 h (by omega), HXN.out W 12 h (by omega), HXN.out W 16 h (by omega)⟩
     have lt15 : (15 : Int) < (lr : Int) := by have := HLR.out; omega
     have lt19 : (19 : Int) < (lr : Int) := by have := HLR.out; omega
     have lt12 : (12 : Int) < (ln : Int) := by have := HLN'.out; omega
     have lt16 : (16 : Int) < (ln : Int) := by have := HLN'.out; omega
     obtain ⟨s2, hs2⟩ : ∃ l : List Int, l = [ord1 p (zat r 15) (zat n 12), ord2 p (zat r 15) (zat r 19) (zat n 12) (zat n 16)] := ⟨_, rfl⟩
     have HS2 := hid hs2
     clear hs2
     generalize hz1' : zat r 15 = z1 at HSO HXS HS2
     generalize hz2' : zat r 19 = z2 at HSO HXS HS2
     generalize hz3' : zat n 12 = z3 at HSO HXS HS2
     generalize hz4' : zat n 16 = z4 at HSO HXS HS2
     generalize ho1' : ord1 p z1 z3 = o1 at HSO HS2
     generalize ho2' : ord2 p z1 z2 z3 z4 = o2 at HSO HS2
     have HZZ : Hid (o1 = ord1 p (zat r 15) (zat n 12) /\ o2 = ord2 p (zat r 15) (zat r 19) (zat n 12) (zat n 16)) := by unfold Hid; rw [hz1', hz2', hz3', hz4', ho1', ho2']; exact ⟨rfl, rfl⟩
     clear hz1' hz2' hz3' hz4' ho1' ho2'
     obtain ⟨x4, x5, y1, y2, y3, y4⟩ := HXS.out wb HI5.out.bel
     have HBD : Hid (Below w.heap.size w wb.drew) := HI5.out.bel.drew
     have HID : Hid (SdI p b V L size out r n aL cL (some ⟨br, orr, none⟩) cr (some ⟨bn, onn, none⟩) cn w l3 vb wb.drew) := HI5.out.step (Below.refl _ _).drew
     go_wp2_with fail
     refine wp_region_held_drew (S := (fun W => W.cell? ⟨V, 4, none⟩ = some (.slice (some ⟨br, orr, none⟩) lr cr) /\ W.cell? ⟨V, 5, none⟩ = some (.slice (some ⟨bn, onn, none⟩) ln cn) /\ W.cell? ⟨br, orr + 15, none⟩ = some (.int .i64 z1) /\ W.cell? ⟨br, orr + 19, none⟩ = some (.int .i64 z2) /\ W.cell? ⟨bn, onn + 12, none⟩ = some (.int .i64 z3) /\ W.cell? ⟨bn, onn + 16, none⟩ = some (.int .i64 z4))) (by kernel_rfl) ⟨x4, x5, y1, y2, y3, y4⟩ (fun hHeld => ?_)
     refine tkU 0 (vb) rfl (fun W hC => by go_simp) hHeld ?_
     simp only [Act.put, aS0, aS1, aS2]
     refine tkU 1 (.pointer (some ⟨V, 0, none⟩)) rfl (fun W hC => by go_simp) hHeld ?_
     simp only [Act.put, aS0, aS1, aS2]
     refine tkU 2 (.pointer (some ⟨V, 0, none⟩)) rfl (fun W hC => by go_simp) hHeld ?_
     simp only [Act.put, aS0, aS1, aS2]
     refine tkU 3 (.pointer (some ⟨V, 0, none⟩)) rfl (fun W hC => by go_simp) hHeld ?_
     simp only [Act.put, aS0, aS1, aS2]
     refine tkU 4 (.pointer (some ⟨V, 4, none⟩)) rfl (fun W hC => by go_simp) hHeld ?_
     simp only [Act.put, aS0, aS1, aS2]
     refine tkU 5 (.slice (some ⟨br, orr, none⟩) lr cr) rfl (fun W hC => by (obtain ⟨g0, g1, g2, g3, g4, g5⟩ := hC); go_simp) hHeld ?_
     simp only [Act.put, aS0, aS1, aS2]
     refine tkU 6 (.pointer (some ⟨br, orr + 15, none⟩)) rfl (fun W hC => by go_simp) hHeld ?_
     simp only [Act.put, aS0, aS1, aS2]
     refine tkU 7 (.int .i64 z1) rfl (fun W hC => by (obtain ⟨g0, g1, g2, g3, g4, g5⟩ := hC); go_simp) hHeld ?_
     simp only [Act.put, aS0, aS1, aS2]
     refine tkU 8 (.pointer (some ⟨V, 0, none⟩)) rfl (fun W hC => by go_simp) hHeld ?_
     simp only [Act.put, aS0, aS1, aS2]
     refine tkU 9 (.pointer (some ⟨V, 0, none⟩)) rfl (fun W hC => by go_simp) hHeld ?_
     simp only [Act.put, aS0, aS1, aS2]
     refine tkU 10 (.pointer (some ⟨V, 4, none⟩)) rfl (fun W hC => by go_simp) hHeld ?_
     simp only [Act.put, aS0, aS1, aS2]
     refine tkU 11 (.slice (some ⟨br, orr, none⟩) lr cr) rfl (fun W hC => by (obtain ⟨g0, g1, g2, g3, g4, g5⟩ := hC); go_simp) hHeld ?_
     simp only [Act.put, aS0, aS1, aS2]
     refine tkU 12 (.pointer (some ⟨br, orr + 19, none⟩)) rfl (fun W hC => by go_simp) hHeld ?_
     simp only [Act.put, aS0, aS1, aS2]
     refine tkU 13 (.int .i64 z2) rfl (fun W hC => by (obtain ⟨g0, g1, g2, g3, g4, g5⟩ := hC); go_simp) hHeld ?_
     simp only [Act.put, aS0, aS1, aS2]
     refine tkU 14 (.pointer (some ⟨V, 0, none⟩)) rfl (fun W hC => by go_simp) hHeld ?_
     simp only [Act.put, aS0, aS1, aS2]
     refine tkU 15 (.pointer (some ⟨V, 0, none⟩)) rfl (fun W hC => by go_simp) hHeld ?_
     simp only [Act.put, aS0, aS1, aS2]
     refine tkU 16 (.pointer (some ⟨V, 5, none⟩)) rfl (fun W hC => by go_simp) hHeld ?_
     simp only [Act.put, aS0, aS1, aS2]
     refine tkU 17 (.slice (some ⟨bn, onn, none⟩) ln cn) rfl (fun W hC => by (obtain ⟨g0, g1, g2, g3, g4, g5⟩ := hC); go_simp) hHeld ?_
     simp only [Act.put, aS0, aS1, aS2]
     refine tkU 18 (.pointer (some ⟨bn, onn + 12, none⟩)) rfl (fun W hC => by go_simp) hHeld ?_
     simp only [Act.put, aS0, aS1, aS2]
     refine tkU 19 (.int .i64 z3) rfl (fun W hC => by (obtain ⟨g0, g1, g2, g3, g4, g5⟩ := hC); go_simp) hHeld ?_
     simp only [Act.put, aS0, aS1, aS2]
     refine tkU 20 (.pointer (some ⟨V, 0, none⟩)) rfl (fun W hC => by go_simp) hHeld ?_
     simp only [Act.put, aS0, aS1, aS2]
     refine tkU 21 (.pointer (some ⟨V, 0, none⟩)) rfl (fun W hC => by go_simp) hHeld ?_
     simp only [Act.put, aS0, aS1, aS2]
     refine tkU 22 (.pointer (some ⟨V, 5, none⟩)) rfl (fun W hC => by go_simp) hHeld ?_
     simp only [Act.put, aS0, aS1, aS2]
     refine tkU 23 (.slice (some ⟨bn, onn, none⟩) ln cn) rfl (fun W hC => by (obtain ⟨g0, g1, g2, g3, g4, g5⟩ := hC); go_simp) hHeld ?_
     simp only [Act.put, aS0, aS1, aS2]
     refine tkU 24 (.pointer (some ⟨bn, onn + 16, none⟩)) rfl (fun W hC => by go_simp) hHeld ?_
     simp only [Act.put, aS0, aS1, aS2]
     refine tkU 25 (.int .i64 z4) rfl (fun W hC => by (obtain ⟨g0, g1, g2, g3, g4, g5⟩ := hC); go_simp) hHeld ?_
     simp only [Act.put, aS0, aS1, aS2]
     refine wpAnyH_ready (rs := [26]) (by kernel_rfl) (by simp) ?_
     refine AllReadyH.consU rfl (fun K' hK' => ?_) AllReadyH.nil
     go_simp
     refine (HSO.out _ HBD.out).mono ?_
     rintro e w3 ⟨G, rfl, hG1, hG2, hb3⟩
     have hI3 := HID.out.step hb3
     refine hK'.out _ _ (HXS.out _ hI3.bel) (fun hHeld => ?_)
     clear hK' K'
     (try simp only [Act.put, aS0, aS1, aS2])
     obtain ⟨v4, w4, hrun, hI4⟩ := sd_app hI3 hG2 (by have := HLL3.out; simp only [List.length_cons, List.length_nil]; omega)
     simp only [List.length_cons, List.length_nil, Nat.zero_add] at hrun
     rw [<- HS2.out] at hI4
     have HI4 := hid hI4
     clear hI3 hI4 hG1 hG2 hb3
     refine wpAnyH_ready (rs := [27]) (by kernel_rfl) (by simp) ?_
     refine AllReadyH.consU rfl (fun K' hK' => ?_) AllReadyH.nil
     rw [if_pos (by rfl)]
     refine rg_appendU _ _ 26 26 rfl _ _ v4 rfl rfl hrun ?_
     refine hK'.out _ _ (HXS.out _ HI4.out.bel) (fun hHeld => ?_)
     clear hK' K' hrun
     simp only [Act.put, aS0, aS1, aS2]
     refine wpAnyH_ready (rs := [28]) (by kernel_rfl) (by simp) ?_
     refine AllReadyH.consU rfl (fun K' hK' => ?_) AllReadyH.nil
     go_simp
     refine hK'.out _ _ hHeld (fun _ => ?_)
     clear hK' K' hHeld
     refine wpAnyH_done (by kernel_rfl) ?_ _
     clear HXS HSO x4 x5 y1 y2 y3 y4
     have HLL4 : Hid ((l3 ++ s2).length <= 4398046511404) := by unfold Hid; rw [List.length_append, HS2.out]; have := HLL3.out; simp only [List.length_cons, List.length_nil]; omega
     have HCX := hid (vends_any p b V L size out r n aL cL (some ⟨br, orr, none⟩) cr (some ⟨bn, onn, none⟩) cn w4 HH.out (HI4.out.view HV.out))
     go_wp2_with fail
     refine HCX.out.mono ?_
     rintro e wa ⟨G, rfl, hG1, hG2, hb1⟩
     have hI1 := HI4.out.step hb1
     obtain ⟨q8, hq8⟩ : ∃ l : List Int, l = [(zat r 20 - 1) % (p : Int), (zat r 0 - 1) % (p : Int), (zat r 1 - 1 - size) % (p : Int), zat r 2 % (p : Int), zat r 12 % (p : Int), zat r 16 % (p : Int), (smt p L r (fun _ => tvH) - 1) % (p : Int), (zat r 7 - out) % (p : Int)] := ⟨_, rfl⟩
     rw [<- hq8] at hG2 ⊢
     have ek : q8.length = 8 := by rw [hq8]; rfl
     obtain ⟨vb, wb, hrun, hI2⟩ := sd_app hI1 hG2 (by have := HLL4.out; omega)
     have HNX : Hid (((l3 ++ s2) ++ q8).length <= 4398046511504) := by unfold Hid; rw [List.length_append, ek]; have := HLL4.out; omega
     rw [ek] at hrun ⊢
     have HI6 := hid hI2
     have HQq8 := hid hq8
     clear hI1 hI2 hG1 hG2 hb1 HCX hq8 ek
     go_wp2_with (at_builtin; refine wpList_appT rfl _ _ rfl rfl _ _ vb rfl rfl hrun ?_)
     clear hrun
     go_wp2_with fail
     refine HRR.out vb wb ?_
     have hE : l3 ++ s2 ++ q8 = rls p L size out r n := by
      rw [HL3.out, HL2.out, HS2.out, HQq8.out, HQq4.out, HL1.out, HH6.out, HZZ.out.1, HZZ.out.2, HNL.out]
      unfold rls rl26 so6
      simp only [List.append_assoc]
      rfl
     rw [<- hE]
     exact HI6.out
theorem ownsRow_base {w : World} {b1 b2 : Nat} {t : TypeId} {k : Nat} {v : Value} {n : Nat} {xs : List Value} (h : w.ownsRow b1 t k v n xs) (hb : b2 <= b1) : w.ownsRow b2 t k v n xs := by
 refine ⟨h.1, ?_⟩
 rcases h.2 with h1 | ⟨g, cap, cur, h1, h2, h3⟩
 ·exact .inl h1
 ·exact .inr ⟨g, cap, cur, h1, Nat.le_trans hb h2, h3⟩
theorem psaid_any (p b : Nat) (L : List InsZ) (size out : Int) (r n : List Int) (aL : Option Addr) (cL : Nat) (ar : Option Addr) (cr : Nat) (an : Option Addr) (cn : Nat) (w : World) (H : VF p L size out r n) (hp : w.cell? ⟨b, 0, none⟩ = some (.int .i64 p)) (hI : LstI w.heap.size w aL cL L) (hr : RowB w.heap.size w ar r) (hn : RowB w.heap.size w an n) :
  Calls Tryz.prog 48 #[.pointer (some ⟨b, 0, none⟩), .agg #[.int .i64 size, .slice aL L.length cL], .int .i64 out, .slice ar r.length cr, .slice an n.length cn] w fun e w' => ∃ v, e = .returned v /\ w'.ownsRow w.heap.size 3 1 v (rls p L size out r n).length ((rls p L size out r n).map (Value.int .i64)) /\ Below w.heap.size w w' := by
 obtain ⟨R, hR⟩ : ∃ R : Ending -> World -> Prop, R = fun e w' => ∃ v, e = .returned v /\ w'.ownsRow w.heap.size 3 1 v (rls p L size out r n).length ((rls p L size out r n).map (Value.int .i64)) /\ Below w.heap.size w w' := ⟨_, rfl⟩
 rw [<- hR]
 have HRR : Hid (∀ v W, W.ownsRow w.heap.size 3 1 v (rls p L size out r n).length ((rls p L size out r n).map (Value.int .i64)) -> Below w.heap.size w W -> R (.returned v) W) := fun v W h1 h2 => by rw [hR]; exact ⟨v, rfl, h1, h2⟩
 obtain ⟨W0, hW0⟩ := exE (w.alloc (.cells #[.int .i64 size, .slice aL L.length cL] 24))
 have hb0 := blA hW0
 have hs0 := haA hW0
 have hCl : w.heap.size < W0.heap.size := (Array.getElem?_eq_some_iff.1 hs0).1
 have HB0 := hid hb0
 have HH := hid H
 have HCO : Hid (∀ W, Below W0.heap.size W0 W -> W.cell? ⟨w.heap.size, 0, none⟩ = some (.int .i64 size) /\ W.cell? ⟨w.heap.size, 1, none⟩ = some (.slice aL L.length cL)) := fun W h => by
  have := (h.block w.heap.size hCl).trans hs0
  exact ⟨by simp [World.cell?, this], by simp [World.cell?, this]⟩
 have HVW : Hid (∀ W G, Below w.heap.size w W -> W.heap[G]? = some (.cells #[.pointer (some ⟨b, 0, none⟩), .int .i64 size, .slice aL L.length cL, .int .i64 out, .slice ar r.length cr, .slice an n.length cn] 134 (0, 0)) -> VW p b G L size out r n aL cL ar cr an cn W) := fun W G h hG =>
  ⟨hG, (h.cell (p := ⟨b, 0, none⟩) (World.block_lt_of_cell? _ _ hp)).trans hp, (hI.below h).mono h.size, RowB.mono h.size (RowB.below h hr), RowB.mono h.size (RowB.below h hn)⟩
 have HWD := hid (fun W => pwidth_any size aL L.length cL W (by have := H.hl; omega))
 obtain ⟨nL, hnL⟩ := exE (L.length)
 have hn0 : ((nL : Int) == 0) = false := by rw [beq_eq_false_iff_ne]; have := H.h1; omega
 have er : r.length = 20 + nL := by rw [hnL]; exact H.hr
 have en : n.length = 20 + nL := by rw [hnL]; exact H.hn
 rw [<- hnL] at hW0 HCO HWD HVW ⊢
 rw [er, en] at HVW ⊢
 obtain ⟨m, hm⟩ := exE (20 + nL)
 rw [<- hm] at HVW HWD ⊢
 have qm : ((m : Int) == (m : Int)) = true := by simp
 have qm2 : ((m : Int) != (m : Int)) = false := by simp
 have HSA := hid (fun W G (h : VW p b G L size out r n aL cL ar cr an cn W) => vsaid_any p b G L size out r n aL cL ar cr an cn W HH.out h)
 have HM : Hid (r.length = m /\ n.length = m) := ⟨by rw [er, hm], by rw [en, hm]⟩
 clear hR hp hI hr hn H hnL hs0 hb0 er en hm
 go_enter Tryz.func48, Tryz.ntmps48
 go_wp2_with fail
 rw [<- hW0]
 obtain ⟨k0, k1⟩ := HCO.out W0 (Below.refl _ _)
 clear hW0
 go_wp2_with fail
 refine (HWD.out _).mono ?_
 rintro e w1 ⟨rfl, hb1⟩
 have HB1 := hid hb1
 obtain ⟨k0', k1'⟩ := HCO.out w1 hb1
 clear hb1 k0 k1
 go_wp2_with fail
 refine (HWD.out _).mono ?_
 rintro e w2 ⟨rfl, hb2⟩
 have HB2 := hid (HB1.out.trans (hb2.mono HB1.out.size))
 obtain ⟨k0, k1⟩ := HCO.out w2 HB2.out
 obtain ⟨W3, hW3⟩ := exE (w2.alloc (.cells #[.pointer (some ⟨b, 0, none⟩), .int .i64 size, .slice aL nL cL, .int .i64 out, .slice ar m cr, .slice an m cn] 134))
 have hb3 := blA hW3
 have hb02 := HB0.out.trans (HB2.out.mono HB0.out.size)
 have hb03 := hb02.trans (hb3.mono hb02.size)
 have HB3 := hid hb03
 have hVW := HVW.out W3 w2.heap.size hb03 (by rw [hW3]; exact heap_alloc_new w2 _)
 have HS3 := hid (HSA.out W3 w2.heap.size hVW)
 clear hb2 hb3 hb02 hb03 hVW k0' k1' HB1 HSA HVW
 go_wp2_with fail
 rw [<- hW3]
 clear hW3 k0 k1
 refine HS3.out.mono ?_
 rintro e w4 ⟨v, rfl, hsd⟩
 have HE := hid (HRR.out v w4 (ownsRow_base hsd.own HB3.out.size) (HB3.out.trans (hsd.bel.mono HB3.out.size)))
 clear hsd HS3
 go_wp2_with fail
 exact HE.out
def rkd (l k : Nat) : Int := if k < l + 12 then 0 else if k < l + 18 then 1 else if k < l + 24 then 2 else 3
theorem prowsOf_any (size : Int) (aL : Option Addr) (nL cL k : Nat) (w : World) (hn : nL <= 4398046511104) :
  Calls Tryz.prog 50 #[.agg #[.int .i64 size, .slice aL nL cL], .int .i64 (k : Int)] w fun e w' => e = .returned (.int .i64 (rkd nL k)) /\ Below w.heap.size w w' := by
 have HB0 : Hid (Below w.heap.size w (w.alloc (.cells #[.int .i64 size, .slice aL nL cL] 24))) := (Below.refl _ _).alloc (Nat.le_refl _) _
 have w12 : IntKind.i64.wrap ((nL : Int) + 12) = (nL : Int) + 12 := by rw [IntKind.wrap_i64]; omega
 have w18 : IntKind.i64.wrap ((nL : Int) + 18) = (nL : Int) + 18 := by rw [IntKind.wrap_i64]; omega
 have w24 : IntKind.i64.wrap ((nL : Int) + 24) = (nL : Int) + 24 := by rw [IntKind.wrap_i64]; omega
 obtain ⟨R, hR⟩ := exE (rkd nL k)
 rw [<- hR]
 by_cases h1 : k < nL + 12
 ·have HE : Hid (R = 0) := by unfold Hid; rw [hR]; simp [rkd, h1]
  have q1 : (k : Int) < (nL : Int) + 12 := by omega
  clear hR h1 hn
  go_enter Tryz.func50, Tryz.ntmps50
  go_wp2_with fail
  go_ret
  exact ⟨by have h := HE.out; subst h; rfl, HB0.out⟩
 ·by_cases h2 : k < nL + 18
  ·have HE : Hid (R = 1) := by unfold Hid; rw [hR]; simp [rkd, h1, h2]
   have q1 : ¬ (k : Int) < (nL : Int) + 12 := by omega
   have q2 : (k : Int) < (nL : Int) + 18 := by omega
   clear hR h1 h2 hn
   go_enter Tryz.func50, Tryz.ntmps50
   go_wp2_with fail
   go_ret
   exact ⟨by have h := HE.out; subst h; rfl, HB0.out⟩
  ·by_cases h3 : k < nL + 24
   ·have HE : Hid (R = 2) := by unfold Hid; rw [hR]; simp [rkd, h1, h2, h3]
    have q1 : ¬ (k : Int) < (nL : Int) + 12 := by omega
    have q2 : ¬ (k : Int) < (nL : Int) + 18 := by omega
    have q3 : (k : Int) < (nL : Int) + 24 := by omega
    clear hR h1 h2 h3 hn
    go_enter Tryz.func50, Tryz.ntmps50
    go_wp2_with fail
    go_ret
    exact ⟨by have h := HE.out; subst h; rfl, HB0.out⟩
   ·have HE : Hid (R = 3) := by unfold Hid; rw [hR]; simp [rkd, h1, h2, h3]
    have q1 : ¬ (k : Int) < (nL : Int) + 12 := by omega
    have q2 : ¬ (k : Int) < (nL : Int) + 18 := by omega
    have q3 : ¬ (k : Int) < (nL : Int) + 24 := by omega
    clear hR h1 h2 h3 hn
    go_enter Tryz.func50, Tryz.ntmps50
    go_wp2_with fail
    go_ret
    exact ⟨by have h := HE.out; subst h; rfl, HB0.out⟩
def wdB (m : Nat) (rows : List (List Int)) : Bool := rows.all fun r => r.length == m
theorem wdB_yes {m : Nat} {rows : List (List Int)} (h : ∀ k, k < rows.length -> (rat rows k).length = m) : wdB m rows = true := by
 unfold wdB
 rw [List.all_eq_true]
 intro r hr
 obtain ⟨k, hk, rfl⟩ := List.getElem_of_mem hr
 have := h k hk
 simp [rat, hk] at this
 simpa using this
theorem wdB_no {m k : Nat} {rows : List (List Int)} (hk : k < rows.length) (h : (rat rows k).length ≠ m) : wdB m rows = false := by
 unfold wdB
 rw [List.all_eq_false]
 refine ⟨rows[k], List.getElem_mem hk, ?_⟩
 simp [rat, hk] at h
 simpa using h
theorem wdB_at {m : Nat} {rows : List (List Int)} (h : wdB m rows = true) {k : Nat} (hk : k < rows.length) : (rat rows k).length = m := by
 rcases Nat.decEq (rat rows k).length m with e | e
 ·rw [wdB_no hk e] at h; cases h
 ·exact e
theorem wnot_any (n cap m B : Nat) (a : Option Addr) (w : World) (h : w.cell? ⟨B, 0, none⟩ = some (.int .i64 (m : Int))) :
  Calls Tryz.prog 37 #[.slice a n cap, .pointer (some ⟨B, 0, none⟩)] w fun e w' => e = .returned (.bool (!((n : Int) == (m : Int)))) /\ w' = w := by
 go_enter Tryz.func37, Tryz.ntmps37
 go_wp2_with fail
 go_ret
 exact ⟨rfl, rfl⟩
theorem windex_any (cap m B : Nat) (a : Option Addr) (rows : List (List Int)) (w : World) (h : w.cell? ⟨B, 0, none⟩ = some (.int .i64 (m : Int))) (hlen : rows.length <= 281474976710656) (hl : LstR w.heap.size w a cap rows) :
  Calls Tryz.prog 72 #[.slice a rows.length cap, .func (.func 37) #[] #[.pointer (some ⟨B, 0, none⟩)]] w fun e w' => (∃ r : Int, e = .returned (.int .i64 r) /\ decide (0 <= r) = !(wdB m rows)) /\ w' = w := by
 have hcf := enters_fn Tryz.func37 (by kernel_rfl) (by kernel_rfl)
 have HL := hid hl
 have HE1 : Hid (∀ (k : Nat) (ak : Option Addr) (ck : Nat), Calls Tryz.prog 37 #[.slice ak (rat rows k).length ck, .pointer (some ⟨B, 0, none⟩)] w fun e w' => e = .returned (.bool (!(((rat rows k).length : Int) == (m : Int)))) /\ w' = w) := fun k ak ck => wnot_any _ ck m B ak w h
 obtain ⟨n, hn⟩ := exE (rows.length)
 rw [<- hn] at hlen ⊢
 have HN := hid hn
 obtain ⟨R, hR⟩ := exE (wdB m rows)
 have HR := hid hR
 rw [<- hR]
 clear hl hn hR
 go_enter Tryz.func72, Tryz.ntmps72
 go_wp2_with fail
 go_loop [8] (fun iv => ∃ k : Nat, k <= n /\ iv = .int .i64 k /\ Hid (∀ j, j < k -> (rat rows j).length = m)) (fun iv => n - (intOf iv).toNat)
 case atStart => exact ⟨0, by omega, rfl, fun j hj => by omega⟩
 case round =>
  obtain ⟨k, hk, rfl, hI⟩ := hrel
  by_cases hlt : k < n
  ·have hlt2 : (k : Int) < (n : Int) := by omega
   have hks : IntKind.i64.wrap ((k : Int) + 1) = (k : Int) + 1 := by rw [IntKind.wrap_i64]; omega
   obtain ⟨b0, o0, ak, ck, rfl, _, hc, _⟩ := HL.out.row k (by rw [<- HN.out]; exact hlt)
   have HX := HE1.out k ak ck
   by_cases hb : (rat rows k).length = m
   ·have q : (((rat rows k).length : Int) == (m : Int)) = true := by rw [hb, beq_self_eq_true]
    rw [q] at HX
    have HXX := hid HX
    have HE : Hid (∀ j, j < k + 1 -> (rat rows j).length = m) := fun j hj => by
     by_cases e : j = k
     ·rw [e]; exact hb
     ·exact hI.out j (by omega)
    clear hI HX hb q
    generalize (rat rows k).length = L at *
    go_wp2_with fail
    refine HXX.out.mono ?_
    rintro e w1 ⟨rfl, rfl⟩
    go_wp2_with fail
    go_round
    case rel => exact ⟨k + 1, by omega, by go_num, HE⟩
    case measure => simp [intOf]; omega
   ·have q : (((rat rows k).length : Int) == (m : Int)) = false := by rw [beq_eq_false_iff_ne]; omega
    rw [q] at HX
    have HXX := hid HX
    have HE : Hid (R = false) := by unfold Hid; rw [HR.out]; exact wdB_no (by rw [<- HN.out]; exact hlt) hb
    clear hI HX hb q
    generalize (rat rows k).length = L at *
    go_wp2_with fail
    refine HXX.out.mono ?_
    rintro e w1 ⟨rfl, rfl⟩
    go_wp2_with fail
    go_ret
    refine ⟨⟨(k : Int), rfl, ?_⟩, rfl⟩
    rw [HE.out]
    simp
  ·obtain rfl : k = n := by omega
   have hlt2 : ¬ (k : Int) < (k : Int) := by omega
   have HE : Hid (R = true) := by unfold Hid; rw [HR.out]; exact wdB_yes (fun j hj => hI.out j (by rw [HN.out]; exact hj))
   clear hI
   go_wp2_with fail
   go_ret
   refine ⟨⟨-1, rfl, ?_⟩, rfl⟩
   rw [HE.out]
   simp
theorem wcontains_any (cap m B : Nat) (a : Option Addr) (rows : List (List Int)) (w : World) (h : w.cell? ⟨B, 0, none⟩ = some (.int .i64 (m : Int))) (hlen : rows.length <= 281474976710656) (hl : LstR w.heap.size w a cap rows) :
  Calls Tryz.prog 36 #[.slice a rows.length cap, .func (.func 37) #[] #[.pointer (some ⟨B, 0, none⟩)]] w fun e w' => e = .returned (.bool (!(wdB m rows))) /\ w' = w := by
 have HI := hid (windex_any cap m B a rows w h hlen hl)
 clear hl h
 generalize wdB m rows = E at *
 generalize rows.length = n at *
 go_enter Tryz.func36, Tryz.ntmps36
 go_wp2_with fail
 refine HI.out.mono ?_
 rintro e w1 ⟨⟨r, rfl, hr⟩, rfl⟩
 have HRR := hid hr
 clear hr HI
 go_wp2_with fail
 go_ret
 exact ⟨by rw [<- HRR.out]; rfl, rfl⟩
theorem wisWide_any (cap m : Nat) (a : Option Addr) (rows : List (List Int)) (w : World) (hlen : rows.length <= 281474976710656) (hl : LstR w.heap.size w a cap rows) :
  Calls Tryz.prog 19 #[.slice a rows.length cap, .int .i64 (m : Int)] w fun e w' => e = .returned (.bool (wdB m rows)) /\ Below w.heap.size w w' := by
 obtain ⟨W0, hW0⟩ := exE (w.alloc (.cells #[.int .i64 (m : Int)] 3))
 have hb0 := blA hW0
 have hs0 := haA hW0
 have HC := hid (wcontains_any cap m w.heap.size a rows W0 (by simp [World.cell?, hs0]) hlen ((hl.below hb0).mono hb0.size))
 have HB0 := hid hb0
 clear hl hb0 hs0
 generalize wdB m rows = E at *
 generalize rows.length = n at *
 go_enter Tryz.func19, Tryz.ntmps19
 go_wp2_with fail
 rw [<- hW0]
 clear hW0
 refine HC.out.mono ?_
 rintro e w1 ⟨rfl, hw⟩
 have hw1 := hw.symm
 subst hw1
 go_wp2_with fail
 go_ret
 exact ⟨by first | rfl | simp, HB0.out⟩
open Go.RowKit
theorem pprod_any (p b c : Nat) (a : Option Addr) (L : List (Int × Int)) (x y : Int) (w : World) (h3 : 3 <= p) (hm : p <= 2147483647) (hp : w.cell? ⟨b, 0, none⟩ = some (.int .i64 p))
  (hx1 : -9223372036854775808 <= x) (hx2 : x <= 9223372036854775807) (hy1 : -9223372036854775808 <= y) (hy2 : y <= 9223372036854775807) (hn : L.length <= 281474976710656) (hL : LstC w.heap.size w a c L) (hB : CelB L) :
  Calls Tryz.prog 119 #[.pointer (some ⟨b, 0, none⟩), .slice a L.length c, .int .i64 x, .int .i64 y] w fun e w' => e = .returned (.int .i64 (prd p x y L L.length)) /\ Below w.heap.size w w' := by
 have hbl : b < w.heap.size := World.block_lt_of_cell? _ _ hp
 have HL := hid hL
 have HB := hid hB
 have HP := hid hp
 obtain ⟨n, hn'⟩ : ∃ n, n = L.length := ⟨_, rfl⟩
 have HN := hid hn'
 rw [<- hn'] at hn ⊢
 clear hL hB hp hn'
 go_enter Tryz.func119, Tryz.ntmps119
 go_wp2_with fail
 go_loopw [9, 14] (fun ov iv wr => ∃ k : Nat, k <= n /\ iv = .int .i64 k /\ ov = .int .i64 (prd p x y L k) /\ Hid (Below w.heap.size w wr)) (fun _ iv _ => n - (intOf iv).toNat)
 case atStart => exact ⟨0, Nat.zero_le _, rfl, rfl, Below.refl _ _⟩
 case round =>
  obtain ⟨k, hk, rfl, rfl, HBw⟩ := hrel
  by_cases hlt : k < n
  ·have hlt2 : (k : Int) < (n : Int) := by omega
   have hks : IntKind.i64.wrap ((k : Int) + 1) = (k : Int) + 1 := by rw [IntKind.wrap_i64]; omega
   obtain ⟨g, o, rfl, hg, c0, c1⟩ := HL.out.row k (by have := HN.out; omega)
   replace c0 := (HBw.out.cell (p := ⟨g, o + k * 2, none⟩) hg).trans c0
   replace c1 := (HBw.out.cell (p := ⟨g, o + k * 2 + 1, none⟩) hg).trans c1
   have hbd := HB.out k (by have := HN.out; omega)
   have hpc := (HBw.out.cell (p := ⟨b, 0, none⟩) hbl).trans HP.out
   have hpr := prd_bd h3 x y L k
   have hnb := nb_bd h3 y (cat L k)
   have HS : Hid (prd p x y L (k + 1) = prd p x y L k * ((x - nb p y (cat L k)) % (p : Int)) % (p : Int)) := rfl
   have hnp := nb_prog p y (cat L k)
   have e1 := emod_bounds (y * (cat L k).2) p h3
   have e2 := emod_bounds (x - nb p y (cat L k)) p h3
   have HM1 : Hid (∀ W : World, W.cell? ⟨b, 0, none⟩ = some (.int .i64 p) -> Calls Tryz.prog 49 #[.pointer (some ⟨b, 0, none⟩), .int .i64 y, .int .i64 (cat L k).2] W fun e w' => e = .returned (.int .i64 (y * (cat L k).2 % (p : Int))) /\ w' = W) :=
    fun W h => mul_any p b _ _ W h3 hm h hy1 hy2 hbd.2.1 hbd.2.2
   have HA1 : Hid (∀ W : World, W.cell? ⟨b, 0, none⟩ = some (.int .i64 p) -> Calls Tryz.prog 92 #[.pointer (some ⟨b, 0, none⟩), .int .i64 (cat L k).1, .int .i64 (y * (cat L k).2 % (p : Int))] W fun e w' => e = .returned (.int .i64 (nb p y (cat L k))) /\ w' = W) :=
    fun W h => by rw [<- hnp]; exact add_any p b _ _ W h3 hm h hbd.1.1 hbd.1.2 (by omega) (by omega)
   have HS1 : Hid (∀ W : World, W.cell? ⟨b, 0, none⟩ = some (.int .i64 p) -> Calls Tryz.prog 52 #[.pointer (some ⟨b, 0, none⟩), .int .i64 x, .int .i64 (nb p y (cat L k))] W fun e w' => e = .returned (.int .i64 ((x - nb p y (cat L k)) % (p : Int))) /\ w' = W) :=
    fun W h => sub_any p b _ _ W h3 hm h hx1 hx2 (by omega) (by omega)
   have HM2 : Hid (∀ W : World, W.cell? ⟨b, 0, none⟩ = some (.int .i64 p) -> Calls Tryz.prog 49 #[.pointer (some ⟨b, 0, none⟩), .int .i64 (prd p x y L k), .int .i64 ((x - nb p y (cat L k)) % (p : Int))] W fun e w' => e = .returned (.int .i64 (prd p x y L (k + 1))) /\ w' = W) :=
    fun W h => by rw [HS.out]; exact mul_any p b _ _ W h3 hm h (by omega) (by omega) (by omega) (by omega)
   clear hbd hpr hnb HS hnp e1 e2
   obtain ⟨r1, hr1⟩ : ∃ r, r = prd p x y L (k + 1) := ⟨_, rfl⟩
   have HR1 := hid hr1
   rw [<- hr1] at HM2
   clear hr1
   generalize prd p x y L k = r0 at *
   generalize (x - nb p y (cat L k)) % (p : Int) = s at *
   generalize nb p y (cat L k) = nn at *
   generalize y * (cat L k).2 % (p : Int) = m at *
   generalize (cat L k).1 = z0 at *
   generalize (cat L k).2 = z1 at *
   obtain ⟨W1, hW1⟩ := exE (wr.alloc (.cells #[.int .i64 z0, .int .i64 z1] 161))
   have HB1 : Hid (Below w.heap.size w W1) := by unfold Hid; rw [hW1]; exact HBw.out.alloc HBw.out.size _
   have hbk := haA hW1
   have q0 := clA 0 hbk rfl
   have q1 := clA 1 hbk rfl
   clear hbk
   have qp : W1.cell? ⟨b, 0, none⟩ = some (.int .i64 p) := (HB1.out.cell (p := ⟨b, 0, none⟩) hbl).trans HP.out
   have QP := qpL qp
   go_wp2_with fail
   rw [<- hW1]
   clear hW1 c0 c1 hpc
   go_quiet (first
    | (go_at_call 49; first | with_reducible exact Calls.quiet_of_same (HM1.out _ (QP.out _)) | with_reducible exact Calls.quiet_of_same (HM2.out _ (QP.out _)))
    | (go_at_call 92; exact Calls.quiet_of_same (HA1.out _ qp))
    | (go_at_call 52; exact Calls.quiet_of_same (HS1.out _ qp)))
   go_wp2_with fail
   go_roundw
   case rel => exact ⟨k + 1, by omega, by go_num, by rw [HR1.out], below_drewN HB1.out _⟩
   case measure => simp [intOf]; omega
  ·have hlt2 : ¬ (k : Int) < (n : Int) := by omega
   obtain rfl : k = n := by omega
   go_wp2_with fail
   go_ret
   exact ⟨rfl, HBw.out⟩
theorem rnumber_any (p : Nat) (c : Int × Int) (y : Int) (w : World) (h3 : 3 <= p) (hm : p <= 2147483647) (hc : (-9223372036854775808 <= c.1 /\ c.1 <= 9223372036854775807) /\ (-9223372036854775808 <= c.2 /\ c.2 <= 9223372036854775807)) (hy1 : -9223372036854775808 <= y) (hy2 : y <= 9223372036854775807) :
  Calls Tryz.prog 121 #[.int .i64 p, .agg #[.int .i64 c.1, .int .i64 c.2], .int .i64 y] w fun e w' => e = .returned (.int .i64 (nb p y c)) /\ Below w.heap.size w w' := by
 have e1 := emod_bounds (c.2 * y) p h3
 have HM : Hid (∀ W, Calls Tryz.prog 58 #[.int .i64 p, .int .i64 c.2, .int .i64 y] W fun e w' => e = .returned (.int .i64 (c.2 * y % (p : Int))) /\ w' = W) := fun W => rmul_any p _ _ W h3 hm hc.2.1 hc.2.2 hy1 hy2
 have HA : Hid (∀ W, Calls Tryz.prog 68 #[.int .i64 p, .int .i64 (c.2 * y % (p : Int)), .int .i64 c.1] W fun e w' => e = .returned (.int .i64 (nb p y c)) /\ w' = W) := fun W => by rw [<- nb_ref]; exact radd_any p _ _ W h3 hm (by omega) (by omega) hc.1.1 hc.1.2
 obtain ⟨z0, z1⟩ := c
 simp only at HM HA
 generalize nb p y (z0, z1) = r at *
 generalize z1 * y % (p : Int) = t at *
 have HB0 : Hid (Below w.heap.size w (w.alloc (.cells #[.int .i64 z0, .int .i64 z1] 161))) := (Below.refl _ _).alloc (Nat.le_refl _) _
 clear hc e1
 go_enter Tryz.func121, Tryz.ntmps121
 go_wp2_with fail
 refine (HM.out _).mono ?_
 rintro e w1 ⟨rfl, rfl⟩
 go_wp2_with fail
 refine (HA.out _).mono ?_
 rintro e w2 ⟨rfl, rfl⟩
 go_wp2_with fail
 go_ret
 exact ⟨rfl, HB0.out⟩
theorem rmake_any (p c : Nat) (a : Option Addr) (L : List (Int × Int)) (x y : Int) (w : World) (h3 : 3 <= p) (hm : p <= 2147483647)
  (hx1 : -9223372036854775808 <= x) (hx2 : x <= 9223372036854775807) (hy1 : -9223372036854775808 <= y) (hy2 : y <= 9223372036854775807) (hn : L.length <= 281474976710656) (hL : LstC w.heap.size w a c L) (hB : CelB L) :
  Calls Tryz.prog 97 #[.int .i64 p, .slice a L.length c, .int .i64 x, .int .i64 y] w fun e w' => e = .returned (.int .i64 (prd p x y L L.length)) /\ Below w.heap.size w w' := by
 have HL := hid hL
 have HB := hid hB
 obtain ⟨n, hn'⟩ : ∃ n, n = L.length := ⟨_, rfl⟩
 have HN := hid hn'
 rw [<- hn'] at hn ⊢
 clear hL hB hn'
 go_enter Tryz.func97, Tryz.ntmps97
 go_wp2_with fail
 go_loopw [9, 10, 11] (fun ov iv _ wr => ∃ k : Nat, k <= n /\ iv = .int .i64 k /\ ov = .int .i64 (prd p x y L k) /\ Hid (Below w.heap.size w wr)) (fun _ iv _ _ => n - (intOf iv).toNat)
 case atStart => exact ⟨0, Nat.zero_le _, rfl, rfl, Below.refl _ _⟩
 case round =>
  obtain ⟨k, hk, rfl, rfl, HBw⟩ := hrel
  by_cases hlt : k < n
  ·have hlt2 : (k : Int) < (n : Int) := by omega
   have hks : IntKind.i64.wrap ((k : Int) + 1) = (k : Int) + 1 := by rw [IntKind.wrap_i64]; omega
   obtain ⟨g, o, rfl, hg, c0, c1⟩ := HL.out.row k (by have := HN.out; omega)
   replace c0 := (HBw.out.cell (p := ⟨g, o + k * 2, none⟩) hg).trans c0
   replace c1 := (HBw.out.cell (p := ⟨g, o + k * 2 + 1, none⟩) hg).trans c1
   have hbd := HB.out k (by have := HN.out; omega)
   have hpr := prd_bd h3 x y L k
   have hnb := nb_bd h3 y (cat L k)
   have HS : Hid (prd p x y L (k + 1) = prd p x y L k * ((x - nb p y (cat L k)) % (p : Int)) % (p : Int)) := rfl
   have e2 := emod_bounds (x - nb p y (cat L k)) p h3
   have HNu := hid (rnumber_any p (cat L k) y wr h3 hm hbd hy1 hy2)
   have HS1 : Hid (∀ W : World, Calls Tryz.prog 65 #[.int .i64 p, .int .i64 x, .int .i64 (nb p y (cat L k))] W fun e w' => e = .returned (.int .i64 ((x - nb p y (cat L k)) % (p : Int))) /\ w' = W) :=
    fun W => rsub_any p _ _ W h3 hm hx1 hx2 (by omega) (by omega)
   have HM2 : Hid (∀ W : World, Calls Tryz.prog 58 #[.int .i64 p, .int .i64 (prd p x y L k), .int .i64 ((x - nb p y (cat L k)) % (p : Int))] W fun e w' => e = .returned (.int .i64 (prd p x y L (k + 1))) /\ w' = W) :=
    fun W => by rw [HS.out]; exact rmul_any p _ _ W h3 hm (by omega) (by omega) (by omega) (by omega)
   clear hbd hpr hnb HS e2
   obtain ⟨r1, hr1⟩ : ∃ r, r = prd p x y L (k + 1) := ⟨_, rfl⟩
   have HR1 := hid hr1
   rw [<- hr1] at HM2
   clear hr1
   generalize prd p x y L k = r0 at *
   generalize (x - nb p y (cat L k)) % (p : Int) = s at *
   generalize nb p y (cat L k) = nn at *
   generalize (cat L k).1 = z0 at *
   generalize (cat L k).2 = z1 at *
   go_wp2_with fail
   refine HNu.out.mono ?_
   rintro e w1 ⟨rfl, hb1⟩
   have HB1 := hid (HBw.out.trans (hb1.mono HBw.out.size))
   clear hb1 HNu c0 c1
   go_wp2_with fail
   refine (HS1.out _).mono ?_
   rintro e w2 ⟨rfl, rfl⟩
   go_wp2_with fail
   refine (HM2.out _).mono ?_
   rintro e w3 ⟨rfl, rfl⟩
   go_wp2_with fail
   go_roundw
   case rel => exact ⟨k + 1, by omega, by go_num, by rw [HR1.out], HB1⟩
   case measure => simp [intOf]; omega
  ·have hlt2 : ¬ (k : Int) < (n : Int) := by omega
   obtain rfl : k = n := by omega
   go_wp2_with fail
   go_ret
   exact ⟨rfl, HBw.out⟩
end Go.Proofs.YtjlngcmkgkiplaaGreatDoor
