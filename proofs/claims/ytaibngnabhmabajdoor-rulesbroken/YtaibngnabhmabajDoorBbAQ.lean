/- Package rules: said, all that is said of a row. The first rule that does not hold, and the first row in which it does not: plainly. slices.SortFunc at cells: laid for this program. -/
import Derived.Test.YtaibngnabhmabajDoorRxJ
import Derived.Test.YtaibngnabhmabajDoorRxK
import Derived.Test.YtaibngnabhmabajDoorRxL
import Derived.Test.YtaibngnabhmabajDoorHeldT
import Derived.Test.YtaibngnabhmabajDoorTres
import Derived.Maps.AppendAt
import Derived.Test.YtaibngnabhmabajDoorBbAI
import Derived.Shelf.SlLaysF0
import Derived.Test.YtaibngnabhmabajDoorProg
namespace Go.Proofs.YtaibngnabhmabajDoor
open Go.RowKit Go.Maps

/-- append by what it comes to -/
theorem wpList_appT {ops : Array Oper} {rest : List Oper} {o : Oper} {a : Act} {w w2 : World} {Q : Exit → Act → World → Prop} (hgd : o.guard = none) (s x : Operand)
    (ho : o.op = .call { callee := .builtin .append, args := #[s, x], argTypes := #[42, 42] }) (hty : o.type = 42) (v u r : Value) (hs : a.eval s = v) (hx : a.eval x = u) (hrun : (Builtin.append_ #[42, 42] 42 #[v, u]).run Tryd.prog w = .ok r w2)
    (h : wpList Tryd.prog ops Q rest (a.put o.dst r) w2) : wpList Tryd.prog ops Q (o :: rest) a w := by
  refine wpList_plain hgd fun K hK => ?_
  unfold Oper.wp
  simp [execOp, ho, hty, resolve, invoke, builtin, hs, hx, hrun, Result.andThen]
  exact hK _ _ h
/-- what has been said so far -/
structure SdI (p b V : Nat) (L : List InsZ) (size out : Int) (r n : List Int) (aL : Option Addr) (cL : Nat) (ar : Option Addr) (cr : Nat) (an : Option Addr) (cn : Nat) (w : World) (l : List Int) (v : Value) (W : World) : Prop where
  own : W.ownsRow w.heap.size 3 1 v l.length (l.map (Value.int .i64))
  bel : Below w.heap.size w W
theorem SdI.view {p b V : Nat} {L : List InsZ} {size out : Int} {r n : List Int} {aL : Option Addr} {cL : Nat} {ar : Option Addr} {cr : Nat} {an : Option Addr} {cn : Nat} {w W : World} {l : List Int} {v : Value} (h : SdI p b V L size out r n aL cL ar cr an cn w l v W) (hV : VW p b V L size out r n aL cL ar cr an cn w) : VW p b V L size out r n aL cL ar cr an cn W := hV.below h.bel
/-- more is said: a new list appended -/
theorem sd_app {p b V : Nat} {L : List InsZ} {size out : Int} {r n : List Int} {aL : Option Addr} {cL : Nat} {ar : Option Addr} {cr : Nat} {an : Option Addr} {cn : Nat} {w W : World} {l m : List Int} {v : Value} {G : Nat} (h : SdI p b V L size out r n aL cL ar cr an cn w l v W) (hG : W.heap[G]? = some (.cells (m.map (Value.int .i64)).toArray 3 (0, 0))) (hl : l.length + m.length ≤ 17592186044416) :
    ∃ v' W', (Builtin.append_ #[42, 42] 42 #[v, .slice (some ⟨G, 0, none⟩) m.length m.length]).run Tryd.prog W = .ok v' W' ∧ SdI p b V L size out r n aL cL ar cr an cn w (l ++ m) v' W' := by
  obtain ⟨i0, hi0, hz0, hz1, hz2⟩ := info_parts Tryd.infoInt
  obtain ⟨v', W', hrun, hown, hgrow, _, _⟩ := run_append_own_at W w.heap.size 42 42 3 i0 (.int .i64 0) 1 8 Tryd.underlying42 hi0 hz0 hz1 hz2 rfl (by decide) v l.length (l.map (Value.int .i64)) h.own ⟨G, 0, none⟩ m.length m.length (m.map (Value.int .i64)) (by simp) (by
    intro j u hj
    have hadd : (⟨G, 0, none⟩ : Addr).add j = ⟨G, j, none⟩ := by unfold Addr.add; split <;> simp_all
    rw [hadd]
    simp only [World.cell?, hG]
    simpa using hj) (by intro u hu; obtain ⟨x, _, rfl⟩ := List.mem_map.1 hu; rfl) (by unfold maxLen; omega) (by omega) h.bel.size
  refine ⟨v', W', hrun, ⟨?_, h.bel.grown hgrow h.bel.size (fun k hk => (World.ownsRow.lt h.own k hk).1)⟩⟩
  rw [List.length_append, List.map_append]
  exact hown
theorem SdI.step {p b V : Nat} {L : List InsZ} {size out : Int} {r n : List Int} {aL : Option Addr} {cL : Nat} {ar : Option Addr} {cr : Nat} {an : Option Addr} {cn : Nat} {w W W' : World} {l : List Int} {v : Value} (h : SdI p b V L size out r n aL cL ar cr an cn w l v W) (e : Below W.heap.size W W') : SdI p b V L size out r n aL cL ar cr an cn w l v W' :=
  ⟨World.ownsRow.kept (row := none) h.own (gb_of_below e) (by cases v.ownBlock <;> simp), h.bel.trans (e.mono h.bel.size)⟩

/-- the six that the sorted pairs of a row say -/
def so6 (p : Nat) (r : List Int) : List Int := [ord1 p (zat r 12) (zat r 13), ord2 p (zat r 12) (zat r 16) (zat r 13) (zat r 17), ord1 p (zat r 13) (zat r 14), ord2 p (zat r 13) (zat r 17) (zat r 14) (zat r 18), ord1 p (zat r 14) (zat r 15), ord2 p (zat r 14) (zat r 18) (zat r 15) (zat r 19)]
theorem so6_take (p : Nat) (r : List Int) (j : Nat) (h : j < 3) : (so6 p r).take (2 * (j + 1)) = (so6 p r).take (2 * j) ++ [ord1 p (zat r (12 + j)) (zat r (13 + j)), ord2 p (zat r (12 + j)) (zat r (16 + j)) (zat r (13 + j)) (zat r (17 + j))] := by
  have : j = 0 ∨ j = 1 ∨ j = 2 := by omega
  rcases this with rfl | rfl | rfl <;> rfl

set_option maxRecDepth 100000 in
set_option maxHeartbeats 16000000 in
theorem vsaid_any (p b V : Nat) (L : List InsZ) (size out : Int) (r n : List Int) (aL : Option Addr) (cL : Nat) (ar : Option Addr) (cr : Nat) (an : Option Addr) (cn : Nat) (w : World) (H : VF p L size out r n) (hV : VW p b V L size out r n aL cL ar cr an cn w) :
    Calls Tryd.prog 31 #[.pointer (some ⟨V, 0, none⟩)] w fun e w' => ∃ v, e = .returned v ∧ SdI p b V L size out r n aL cL ar cr an cn w (rls p L size out r n) v w' := by
  obtain ⟨i0, hi0, hz0, hz1, hz2⟩ := info_parts Tryd.infoInt
  have h3 := H.h3
  have h4 := H.h4
  have hl := H.hl
  obtain ⟨br, orr, har, hrw⟩ := hV.rowAt H.hr
  subst har
  obtain ⟨bn, onn, han, hnw⟩ := hV.nxtAt H.hn
  subst han
  have hh1 := H.h1
  obtain ⟨R, hR⟩ : ∃ R : Ending → World → Prop, R = fun e w' => ∃ v, e = .returned v ∧ SdI p b V L size out r n aL cL (some ⟨br, orr, none⟩) cr (some ⟨bn, onn, none⟩) cn w (rls p L size out r n) v w' := ⟨_, rfl⟩
  rw [← hR]
  have HRR : Hid (∀ v W, SdI p b V L size out r n aL cL (some ⟨br, orr, none⟩) cr (some ⟨bn, onn, none⟩) cn w (rls p L size out r n) v W → R (.returned v) W) := fun v W h => by rw [hR]; exact ⟨v, rfl, h⟩
  have HH := hid H
  have HV := hid hV
  have HRW := hid hrw
  have HNW := hid hnw
  obtain ⟨nL, hnL⟩ : ∃ nL, nL = L.length := ⟨_, rfl⟩
  have HNL := hid hnL
  have hlr : (r.length : Int) = 20 + (nL : Int) := by have := H.hr; omega
  have HLR := hid hlr
  obtain ⟨c0, c1, c2, c3, c4, c5⟩ := hV.cells
  rw [← hnL] at hl c2
  have HXC : Hid (∀ W, Below w.heap.size w W → W.cell? ⟨V, 0, none⟩ = some (.pointer (some ⟨b, 0, none⟩)) ∧ W.cell? ⟨V, 4, none⟩ = some (.slice (some ⟨br, orr, none⟩) r.length cr) ∧ W.cell? ⟨V, 5, none⟩ = some (.slice (some ⟨bn, onn, none⟩) n.length cn)) := fun W h => by
    have hc := (hV.below h).cells
    exact ⟨hc.1, hc.2.2.2.2.1, hc.2.2.2.2.2⟩
  have HXR : Hid (∀ W i, Below w.heap.size w W → i < 20 + L.length → W.cell? ⟨br, orr + i, none⟩ = some (.int .i64 (zat r i))) := fun W i h hi => (h.cell (p := ⟨br, orr + i, none⟩) (World.block_lt_of_cell? _ _ (hrw i hi))).trans (hrw i hi)
  have HXN : Hid (∀ W i, Below w.heap.size w W → i < 20 + L.length → W.cell? ⟨bn, onn + i, none⟩ = some (.int .i64 (zat n i))) := fun W i h hi => (h.cell (p := ⟨bn, onn + i, none⟩) (World.block_lt_of_cell? _ _ (hnw i hi))).trans (hnw i hi)
  obtain ⟨lr, hlr'⟩ : ∃ lr, lr = r.length := ⟨_, rfl⟩
  obtain ⟨ln, hln'⟩ : ∃ ln, ln = n.length := ⟨_, rfl⟩
  have HLN' : Hid ((ln : Int) = 20 + (nL : Int)) := by have := H.hn; unfold Hid; omega
  rw [← hlr'] at c4 HXC hlr HLR
  rw [← hln'] at c5 HXC
  clear hR H hV hrw hnw hlr hlr' hln' hnL
  go_enter Tryd.func31, Tryd.ntmps31
  go_wp2_with fail
  go_loopw [3, 12] (fun ov iv wr => ∃ k : Nat, k ≤ nL ∧ iv = .int .i64 k ∧ Hid (SdI p b V L size out r n aL cL (some ⟨br, orr, none⟩) cr (some ⟨bn, onn, none⟩) cn w (ls (chz p r) k) ov wr)) (fun _ iv _ => nL - (intOf iv).toNat)
  case atStart => exact ⟨0, Nat.zero_le _, rfl, ⟨World.ownsRow_nil _ _ _ _, Below.refl _ _⟩⟩
  case round =>
    obtain ⟨k, hk, rfl, HI⟩ := hrel
    by_cases hlt : k < nL
    · have hlt2 : (k : Int) < (nL : Int) := by omega
      have hks : IntKind.i64.wrap ((k : Int) + 1) = (k : Int) + 1 := by rw [IntKind.wrap_i64]; omega
      obtain ⟨m, hm⟩ : ∃ m, m = 20 + k := ⟨_, rfl⟩
      have em : 20 + (k : Int) = (m : Int) := by omega
      have wm : IntKind.i64.wrap (m : Int) = (m : Int) := by rw [IntKind.wrap_i64]; omega
      have lm : (m : Int) < (lr : Int) := by have := HLR.out; omega
      obtain ⟨d0, d4, d5⟩ := HXC.out wr HI.out.bel
      have dm := HXR.out wr m HI.out.bel (by have := HNL.out; omega)
      have HCH := hid (vchoice_any p b V L size out r n aL cL (some ⟨br, orr, none⟩) cr (some ⟨bn, onn, none⟩) cn wr HH.out (HI.out.view HV.out) (zat r m) (HH.out.fr m))
      have HCE : Hid ((zat r m * (zat r m - 1)) % (p : Int) = chz p r k) := by unfold Hid; rw [hm]; rfl
      have HLS : Hid (ls (chz p r) (k + 1) = ls (chz p r) k ++ [chz p r k]) := ls_succ _ _
      have HLK : Hid ((ls (chz p r) k).length ≤ 4398046511104) := by unfold Hid; rw [ls_len]; omega
      obtain ⟨ck, hck⟩ : ∃ ck, ck = chz p r k := ⟨_, rfl⟩
      rw [← hck] at HCE HLS
      rw [HCE.out] at HCH
      generalize zat r m = zm at *
      generalize ls (chz p r) k = lk at *
      clear hck HCE hm
      go_wp2_with fail
      refine HCH.out.mono ?_
      rintro e w1 ⟨rfl, mm, rfl⟩
      have HI1 := hid (HI.out.step (below_drewN (Below.refl _ _) mm))
      generalize wr.drewN mm = w1 at *
      obtain ⟨W2, hW2⟩ : ∃ W2, W2 = w1.alloc (.cells #[.int .i64 ck] 3) := ⟨_, rfl⟩
      have hb2 : Below w1.heap.size w1 W2 := by rw [hW2]; exact (Below.refl _ _).alloc (Nat.le_refl _) _
      have hI2 := HI1.out.step hb2
      obtain ⟨v', W', hrun, hI3⟩ := sd_app (m := [ck]) (G := w1.heap.size) hI2 (by rw [hW2]; exact heap_alloc_new w1 _) (by have := HLK.out; simp only [List.length_cons, List.length_nil]; omega)
      rw [← HLS.out] at hI3
      have HI3 := hid hI3
      rw [hW2] at hrun
      simp only [List.length_cons, List.length_nil, Nat.zero_add] at hrun
      clear hb2 hI2 hI3 hW2 W2 HI HI1 HCH d0 d4 d5 dm
      go_wp2_with (at_builtin; refine wpList_appT rfl _ _ rfl rfl _ _ v' rfl rfl hrun ?_)
      go_wp2_with fail
      go_roundw
      case rel => exact ⟨k + 1, by omega, by go_num, HI3⟩
      case measure => simp [intOf]; omega
    · obtain rfl : k = nL := by omega
      have hlt2 : ¬ (k : Int) < (k : Int) := by omega
      have HHE := hid (vhere_any p b V L size out r n aL cL (some ⟨br, orr, none⟩) cr (some ⟨bn, onn, none⟩) cn wr HH.out (HI.out.view HV.out))
      have HLK : Hid ((ls (chz p r) k).length ≤ 4398046511104) := by unfold Hid; rw [ls_len]; omega
      obtain ⟨l1, hl1⟩ : ∃ l, l = ls (chz p r) k := ⟨_, rfl⟩
      have HL1 := hid hl1
      rw [← hl1] at HI HLK
      clear hl1
      go_wp2_with fail
      refine HHE.out.mono ?_
      rintro e w1 ⟨G, rfl, hG1, hG2, hb1⟩
      have hI1 := HI.out.step hb1
      obtain ⟨h6, hh6⟩ : ∃ l : List Int, l = [(smt p L r (fun _ _ => 1) - 1) % (p : Int), (zat r 3 - smt p L r (fun _ => tvC p r 0)) % (p : Int), (zat r 4 - smt p L r (fun _ => tvC p r 1)) % (p : Int), (zat r 5 - smt p L r (fun _ => tvC p r 2)) % (p : Int), smt p L r (fun _ => tvW p r), smt p L r (tvM p r)] := ⟨_, rfl⟩
      rw [← hh6] at hG2 ⊢
      have e6 : h6.length = 6 := by rw [hh6]; rfl
      obtain ⟨v2, w2, hrun, hI2⟩ := sd_app hI1 hG2 (by have := HLK.out; omega)
      rw [e6] at hrun ⊢
      have HI2 := hid hI2
      have HH6 := hid hh6
      have HE6 := hid e6
      clear hI1 hI2 hG1 hG2 hb1 HHE HI hh6 e6
      go_wp2_with (at_builtin; refine wpList_appT rfl _ _ rfl rfl _ _ v2 rfl rfl hrun ?_)
      clear hrun
      go_wp2_with fail
      go_loopw [3, 33] (fun ov iv wr => ∃ j : Nat, j ≤ 3 ∧ iv = .int .i64 j ∧ Hid (SdI p b V L size out r n aL cL (some ⟨br, orr, none⟩) cr (some ⟨bn, onn, none⟩) cn w (l1 ++ h6 ++ (so6 p r).take (2 * j)) ov wr)) (fun _ iv _ => 3 - (intOf iv).toNat)
      case atStart => exact ⟨0, by omega, rfl, by unfold Hid; rw [show (so6 p r).take (2 * 0) = [] from rfl, List.append_nil]; exact HI2.out⟩
      case round =>
        obtain ⟨j, hj, rfl, HI⟩ := hrel
        obtain ⟨wo, hwo⟩ : ∃ wo, wo = wr := ⟨_, rfl⟩
        by_cases hlj : j < 3
        · have hlj2 : (j : Int) < 3 := by omega
          have hjs : IntKind.i64.wrap ((j : Int) + 1) = (j : Int) + 1 := by rw [IntKind.wrap_i64]; omega
          obtain ⟨a1, ha1⟩ : ∃ a, a = 12 + j := ⟨_, rfl⟩
          obtain ⟨a2, ha2⟩ : ∃ a, a = 16 + j := ⟨_, rfl⟩
          obtain ⟨a3, ha3⟩ : ∃ a, a = 13 + j := ⟨_, rfl⟩
          obtain ⟨a4, ha4⟩ : ∃ a, a = 17 + j := ⟨_, rfl⟩
          have e1 : 12 + (j : Int) = (a1 : Int) := by omega
          have e2 : 16 + (j : Int) = (a2 : Int) := by omega
          have e3 : (a1 : Int) + 1 = (a3 : Int) := by omega
          have e4 : (a2 : Int) + 1 = (a4 : Int) := by omega
          have wp1 : IntKind.i64.wrap (a1 : Int) = (a1 : Int) := by rw [IntKind.wrap_i64]; omega
          have lt1 : (a1 : Int) < (lr : Int) := by have := HLR.out; omega
          have wp2 : IntKind.i64.wrap (a2 : Int) = (a2 : Int) := by rw [IntKind.wrap_i64]; omega
          have lt2 : (a2 : Int) < (lr : Int) := by have := HLR.out; omega
          have wp3 : IntKind.i64.wrap (a3 : Int) = (a3 : Int) := by rw [IntKind.wrap_i64]; omega
          have lt3 : (a3 : Int) < (lr : Int) := by have := HLR.out; omega
          have wp4 : IntKind.i64.wrap (a4 : Int) = (a4 : Int) := by rw [IntKind.wrap_i64]; omega
          have lt4 : (a4 : Int) < (lr : Int) := by have := HLR.out; omega
          have HSO : Hid (∀ W, Below w.heap.size w W → Calls Tryd.prog 42 #[.pointer (some ⟨V, 0, none⟩), .int .i64 (zat r a1), .int .i64 (zat r a2), .int .i64 (zat r a3), .int .i64 (zat r a4)] W (NewL [ord1 p (zat r a1) (zat r a3), ord2 p (zat r a1) (zat r a2) (zat r a3) (zat r a4)] W)) := fun W h => vsorted_any p b V L size out r n aL cL (some ⟨br, orr, none⟩) cr (some ⟨bn, onn, none⟩) cn W HH.out (HV.out.below h) _ _ _ _ ⟨HH.out.fr _, HH.out.fr _, HH.out.fr _, HH.out.fr _⟩
          have HTK : Hid ((so6 p r).take (2 * (j + 1)) = (so6 p r).take (2 * j) ++ [ord1 p (zat r a1) (zat r a3), ord2 p (zat r a1) (zat r a2) (zat r a3) (zat r a4)]) := by unfold Hid; rw [ha1, ha2, ha3, ha4]; exact so6_take p r j hlj
          have HXS : Hid (∀ W, Below w.heap.size w W → (W.cell? ⟨V, 4, none⟩ = some (.slice (some ⟨br, orr, none⟩) lr cr) ∧ W.cell? ⟨br, orr + a1, none⟩ = some (.int .i64 (zat r a1)) ∧ W.cell? ⟨br, orr + a2, none⟩ = some (.int .i64 (zat r a2)) ∧ W.cell? ⟨br, orr + a3, none⟩ = some (.int .i64 (zat r a3)) ∧ W.cell? ⟨br, orr + a4, none⟩ = some (.int .i64 (zat r a4)))) := fun W h => ⟨(HXC.out W h).2.1, HXR.out W a1 h (by omega), HXR.out W a2 h (by omega), HXR.out W a3 h (by omega), HXR.out W a4 h (by omega)⟩
          have HLL : Hid ((l1 ++ h6 ++ (so6 p r).take (2 * j)).length ≤ 4398046511204) := by
            unfold Hid
            rw [List.length_append, List.length_append, HE6.out, List.length_take]
            have := HLK.out
            omega
          generalize zat r a1 = z1 at *
          generalize zat r a2 = z2 at *
          generalize zat r a3 = z3 at *
          generalize zat r a4 = z4 at *
          generalize ord1 p z1 z3 = o1 at *
          generalize ord2 p z1 z2 z3 z4 = o2 at *
          clear ha1 ha2 ha3 ha4 hwo
          obtain ⟨x4, y1, y2, y3, y4⟩ := HXS.out wr HI.out.bel
          have HBD : Hid (Below w.heap.size w wr.drew) := HI.out.bel.drew
          have HID : Hid (SdI p b V L size out r n aL cL (some ⟨br, orr, none⟩) cr (some ⟨bn, onn, none⟩) cn w (l1 ++ h6 ++ (so6 p r).take (2 * j)) u3 wr.drew) := HI.out.step (Below.refl _ _).drew
          go_wp2_with fail
          refine wp_region_held_drew (S := (fun W => W.cell? ⟨V, 4, none⟩ = some (.slice (some ⟨br, orr, none⟩) lr cr) ∧ W.cell? ⟨br, orr + a1, none⟩ = some (.int .i64 z1) ∧ W.cell? ⟨br, orr + a2, none⟩ = some (.int .i64 z2) ∧ W.cell? ⟨br, orr + a3, none⟩ = some (.int .i64 z3) ∧ W.cell? ⟨br, orr + a4, none⟩ = some (.int .i64 z4))) (by kernel_rfl) ⟨x4, y1, y2, y3, y4⟩ (fun hHeld => ?_)
          refine wpAnyH_takeU (i := 0) (v := u3) rfl (by kernel_rfl) (by kernel_rfl) (by kernel_rfl) (fun _ _ _ h => h) (by rfl) (fun W hC => by go_simp) hHeld ?_
          simp only [Act.put, List.setIfInBounds_toArray, List.set_cons_zero, List.set_cons_succ]
          refine wpAnyH_takeU (i := 1) (v := .pointer (some ⟨V, 0, none⟩)) rfl (by kernel_rfl) (by kernel_rfl) (by kernel_rfl) (fun _ _ _ h => h) (by rfl) (fun W hC => by go_simp) hHeld ?_
          simp only [Act.put, List.setIfInBounds_toArray, List.set_cons_zero, List.set_cons_succ]
          refine wpAnyH_takeU (i := 2) (v := .pointer (some ⟨V, 0, none⟩)) rfl (by kernel_rfl) (by kernel_rfl) (by kernel_rfl) (fun _ _ _ h => h) (by rfl) (fun W hC => by go_simp) hHeld ?_
          simp only [Act.put, List.setIfInBounds_toArray, List.set_cons_zero, List.set_cons_succ]
          refine wpAnyH_takeU (i := 3) (v := .pointer (some ⟨V, 0, none⟩)) rfl (by kernel_rfl) (by kernel_rfl) (by kernel_rfl) (fun _ _ _ h => h) (by rfl) (fun W hC => by go_simp) hHeld ?_
          simp only [Act.put, List.setIfInBounds_toArray, List.set_cons_zero, List.set_cons_succ]
          refine wpAnyH_takeU (i := 4) (v := .pointer (some ⟨V, 4, none⟩)) rfl (by kernel_rfl) (by kernel_rfl) (by kernel_rfl) (fun _ _ _ h => h) (by rfl) (fun W hC => by go_simp) hHeld ?_
          simp only [Act.put, List.setIfInBounds_toArray, List.set_cons_zero, List.set_cons_succ]
          refine wpAnyH_takeU (i := 5) (v := .slice (some ⟨br, orr, none⟩) lr cr) rfl (by kernel_rfl) (by kernel_rfl) (by kernel_rfl) (fun _ _ _ h => h) (by rfl) (fun W hC => by (obtain ⟨g0, g1, g2, g3, g4⟩ := hC); go_simp) hHeld ?_
          simp only [Act.put, List.setIfInBounds_toArray, List.set_cons_zero, List.set_cons_succ]
          refine wpAnyH_takeU (i := 6) (v := .int .i64 (j : Int)) rfl (by kernel_rfl) (by kernel_rfl) (by kernel_rfl) (fun _ _ _ h => h) (by rfl) (fun W hC => by go_simp) hHeld ?_
          simp only [Act.put, List.setIfInBounds_toArray, List.set_cons_zero, List.set_cons_succ]
          refine wpAnyH_takeU (i := 7) (v := .int .i64 (a1 : Int)) rfl (by kernel_rfl) (by kernel_rfl) (by kernel_rfl) (fun _ _ _ h => h) (by rfl) (fun W hC => by go_simp) hHeld ?_
          simp only [Act.put, List.setIfInBounds_toArray, List.set_cons_zero, List.set_cons_succ]
          refine wpAnyH_takeU (i := 8) (v := .pointer (some ⟨br, orr + a1, none⟩)) rfl (by kernel_rfl) (by kernel_rfl) (by kernel_rfl) (fun _ _ _ h => h) (by rfl) (fun W hC => by go_simp) hHeld ?_
          simp only [Act.put, List.setIfInBounds_toArray, List.set_cons_zero, List.set_cons_succ]
          refine wpAnyH_takeU (i := 9) (v := .int .i64 z1) rfl (by kernel_rfl) (by kernel_rfl) (by kernel_rfl) (fun _ _ _ h => h) (by rfl) (fun W hC => by (obtain ⟨g0, g1, g2, g3, g4⟩ := hC); go_simp) hHeld ?_
          simp only [Act.put, List.setIfInBounds_toArray, List.set_cons_zero, List.set_cons_succ]
          refine wpAnyH_takeU (i := 10) (v := .pointer (some ⟨V, 0, none⟩)) rfl (by kernel_rfl) (by kernel_rfl) (by kernel_rfl) (fun _ _ _ h => h) (by rfl) (fun W hC => by go_simp) hHeld ?_
          simp only [Act.put, List.setIfInBounds_toArray, List.set_cons_zero, List.set_cons_succ]
          refine wpAnyH_takeU (i := 11) (v := .pointer (some ⟨V, 0, none⟩)) rfl (by kernel_rfl) (by kernel_rfl) (by kernel_rfl) (fun _ _ _ h => h) (by rfl) (fun W hC => by go_simp) hHeld ?_
          simp only [Act.put, List.setIfInBounds_toArray, List.set_cons_zero, List.set_cons_succ]
          refine wpAnyH_takeU (i := 12) (v := .pointer (some ⟨V, 4, none⟩)) rfl (by kernel_rfl) (by kernel_rfl) (by kernel_rfl) (fun _ _ _ h => h) (by rfl) (fun W hC => by go_simp) hHeld ?_
          simp only [Act.put, List.setIfInBounds_toArray, List.set_cons_zero, List.set_cons_succ]
          refine wpAnyH_takeU (i := 13) (v := .slice (some ⟨br, orr, none⟩) lr cr) rfl (by kernel_rfl) (by kernel_rfl) (by kernel_rfl) (fun _ _ _ h => h) (by rfl) (fun W hC => by (obtain ⟨g0, g1, g2, g3, g4⟩ := hC); go_simp) hHeld ?_
          simp only [Act.put, List.setIfInBounds_toArray, List.set_cons_zero, List.set_cons_succ]
          refine wpAnyH_takeU (i := 14) (v := .int .i64 (j : Int)) rfl (by kernel_rfl) (by kernel_rfl) (by kernel_rfl) (fun _ _ _ h => h) (by rfl) (fun W hC => by go_simp) hHeld ?_
          simp only [Act.put, List.setIfInBounds_toArray, List.set_cons_zero, List.set_cons_succ]
          refine wpAnyH_takeU (i := 15) (v := .int .i64 (a2 : Int)) rfl (by kernel_rfl) (by kernel_rfl) (by kernel_rfl) (fun _ _ _ h => h) (by rfl) (fun W hC => by go_simp) hHeld ?_
          simp only [Act.put, List.setIfInBounds_toArray, List.set_cons_zero, List.set_cons_succ]
          refine wpAnyH_takeU (i := 16) (v := .pointer (some ⟨br, orr + a2, none⟩)) rfl (by kernel_rfl) (by kernel_rfl) (by kernel_rfl) (fun _ _ _ h => h) (by rfl) (fun W hC => by go_simp) hHeld ?_
          simp only [Act.put, List.setIfInBounds_toArray, List.set_cons_zero, List.set_cons_succ]
          refine wpAnyH_takeU (i := 17) (v := .int .i64 z2) rfl (by kernel_rfl) (by kernel_rfl) (by kernel_rfl) (fun _ _ _ h => h) (by rfl) (fun W hC => by (obtain ⟨g0, g1, g2, g3, g4⟩ := hC); go_simp) hHeld ?_
          simp only [Act.put, List.setIfInBounds_toArray, List.set_cons_zero, List.set_cons_succ]
          refine wpAnyH_takeU (i := 18) (v := .pointer (some ⟨V, 0, none⟩)) rfl (by kernel_rfl) (by kernel_rfl) (by kernel_rfl) (fun _ _ _ h => h) (by rfl) (fun W hC => by go_simp) hHeld ?_
          simp only [Act.put, List.setIfInBounds_toArray, List.set_cons_zero, List.set_cons_succ]
          refine wpAnyH_takeU (i := 19) (v := .pointer (some ⟨V, 0, none⟩)) rfl (by kernel_rfl) (by kernel_rfl) (by kernel_rfl) (fun _ _ _ h => h) (by rfl) (fun W hC => by go_simp) hHeld ?_
          simp only [Act.put, List.setIfInBounds_toArray, List.set_cons_zero, List.set_cons_succ]
          refine wpAnyH_takeU (i := 20) (v := .pointer (some ⟨V, 4, none⟩)) rfl (by kernel_rfl) (by kernel_rfl) (by kernel_rfl) (fun _ _ _ h => h) (by rfl) (fun W hC => by go_simp) hHeld ?_
          simp only [Act.put, List.setIfInBounds_toArray, List.set_cons_zero, List.set_cons_succ]
          refine wpAnyH_takeU (i := 21) (v := .slice (some ⟨br, orr, none⟩) lr cr) rfl (by kernel_rfl) (by kernel_rfl) (by kernel_rfl) (fun _ _ _ h => h) (by rfl) (fun W hC => by (obtain ⟨g0, g1, g2, g3, g4⟩ := hC); go_simp) hHeld ?_
          simp only [Act.put, List.setIfInBounds_toArray, List.set_cons_zero, List.set_cons_succ]
          refine wpAnyH_takeU (i := 22) (v := .int .i64 (j : Int)) rfl (by kernel_rfl) (by kernel_rfl) (by kernel_rfl) (fun _ _ _ h => h) (by rfl) (fun W hC => by go_simp) hHeld ?_
          simp only [Act.put, List.setIfInBounds_toArray, List.set_cons_zero, List.set_cons_succ]
          refine wpAnyH_takeU (i := 23) (v := .int .i64 (a1 : Int)) rfl (by kernel_rfl) (by kernel_rfl) (by kernel_rfl) (fun _ _ _ h => h) (by rfl) (fun W hC => by go_simp) hHeld ?_
          simp only [Act.put, List.setIfInBounds_toArray, List.set_cons_zero, List.set_cons_succ]
          refine wpAnyH_takeU (i := 24) (v := .int .i64 (a3 : Int)) rfl (by kernel_rfl) (by kernel_rfl) (by kernel_rfl) (fun _ _ _ h => h) (by rfl) (fun W hC => by go_simp) hHeld ?_
          simp only [Act.put, List.setIfInBounds_toArray, List.set_cons_zero, List.set_cons_succ]
          refine wpAnyH_takeU (i := 25) (v := .pointer (some ⟨br, orr + a3, none⟩)) rfl (by kernel_rfl) (by kernel_rfl) (by kernel_rfl) (fun _ _ _ h => h) (by rfl) (fun W hC => by go_simp) hHeld ?_
          simp only [Act.put, List.setIfInBounds_toArray, List.set_cons_zero, List.set_cons_succ]
          refine wpAnyH_takeU (i := 26) (v := .int .i64 z3) rfl (by kernel_rfl) (by kernel_rfl) (by kernel_rfl) (fun _ _ _ h => h) (by rfl) (fun W hC => by (obtain ⟨g0, g1, g2, g3, g4⟩ := hC); go_simp) hHeld ?_
          simp only [Act.put, List.setIfInBounds_toArray, List.set_cons_zero, List.set_cons_succ]
          refine wpAnyH_takeU (i := 27) (v := .pointer (some ⟨V, 0, none⟩)) rfl (by kernel_rfl) (by kernel_rfl) (by kernel_rfl) (fun _ _ _ h => h) (by rfl) (fun W hC => by go_simp) hHeld ?_
          simp only [Act.put, List.setIfInBounds_toArray, List.set_cons_zero, List.set_cons_succ]
          refine wpAnyH_takeU (i := 28) (v := .pointer (some ⟨V, 0, none⟩)) rfl (by kernel_rfl) (by kernel_rfl) (by kernel_rfl) (fun _ _ _ h => h) (by rfl) (fun W hC => by go_simp) hHeld ?_
          simp only [Act.put, List.setIfInBounds_toArray, List.set_cons_zero, List.set_cons_succ]
          refine wpAnyH_takeU (i := 29) (v := .pointer (some ⟨V, 4, none⟩)) rfl (by kernel_rfl) (by kernel_rfl) (by kernel_rfl) (fun _ _ _ h => h) (by rfl) (fun W hC => by go_simp) hHeld ?_
          simp only [Act.put, List.setIfInBounds_toArray, List.set_cons_zero, List.set_cons_succ]
          refine wpAnyH_takeU (i := 30) (v := .slice (some ⟨br, orr, none⟩) lr cr) rfl (by kernel_rfl) (by kernel_rfl) (by kernel_rfl) (fun _ _ _ h => h) (by rfl) (fun W hC => by (obtain ⟨g0, g1, g2, g3, g4⟩ := hC); go_simp) hHeld ?_
          simp only [Act.put, List.setIfInBounds_toArray, List.set_cons_zero, List.set_cons_succ]
          refine wpAnyH_takeU (i := 31) (v := .int .i64 (j : Int)) rfl (by kernel_rfl) (by kernel_rfl) (by kernel_rfl) (fun _ _ _ h => h) (by rfl) (fun W hC => by go_simp) hHeld ?_
          simp only [Act.put, List.setIfInBounds_toArray, List.set_cons_zero, List.set_cons_succ]
          refine wpAnyH_takeU (i := 32) (v := .int .i64 (a2 : Int)) rfl (by kernel_rfl) (by kernel_rfl) (by kernel_rfl) (fun _ _ _ h => h) (by rfl) (fun W hC => by go_simp) hHeld ?_
          simp only [Act.put, List.setIfInBounds_toArray, List.set_cons_zero, List.set_cons_succ]
          refine wpAnyH_takeU (i := 33) (v := .int .i64 (a4 : Int)) rfl (by kernel_rfl) (by kernel_rfl) (by kernel_rfl) (fun _ _ _ h => h) (by rfl) (fun W hC => by go_simp) hHeld ?_
          simp only [Act.put, List.setIfInBounds_toArray, List.set_cons_zero, List.set_cons_succ]
          refine wpAnyH_takeU (i := 34) (v := .pointer (some ⟨br, orr + a4, none⟩)) rfl (by kernel_rfl) (by kernel_rfl) (by kernel_rfl) (fun _ _ _ h => h) (by rfl) (fun W hC => by go_simp) hHeld ?_
          simp only [Act.put, List.setIfInBounds_toArray, List.set_cons_zero, List.set_cons_succ]
          refine wpAnyH_takeU (i := 35) (v := .int .i64 z4) rfl (by kernel_rfl) (by kernel_rfl) (by kernel_rfl) (fun _ _ _ h => h) (by rfl) (fun W hC => by (obtain ⟨g0, g1, g2, g3, g4⟩ := hC); go_simp) hHeld ?_
          simp only [Act.put, List.setIfInBounds_toArray, List.set_cons_zero, List.set_cons_succ]
          refine wpAnyH_ready (rs := [36]) (by kernel_rfl) (by simp) ?_
          refine AllReadyH.consU rfl (fun K' hK' => ?_) AllReadyH.nil
          go_simp
          refine (HSO.out _ HBD.out).mono ?_
          rintro e w3 ⟨G, rfl, hG1, hG2, hb3⟩
          have hI3 := HID.out.step hb3
          refine hK'.out _ _ (HXS.out _ hI3.bel) (fun hHeld => ?_)
          clear hK' K'
          (try simp only [Act.put, List.setIfInBounds_toArray, List.set_cons_zero, List.set_cons_succ])
          obtain ⟨v4, w4, hrun, hI4⟩ := sd_app hI3 hG2 (by have := HLL.out; simp only [List.length_cons, List.length_nil]; omega)
          simp only [List.length_cons, List.length_nil, Nat.zero_add] at hrun
          rw [List.append_assoc, ← HTK.out] at hI4
          have HI4 := hid hI4
          clear hI3 hI4 hG1 hG2 hb3
          refine wpAnyH_ready (rs := [37]) (by kernel_rfl) (by simp) ?_
          refine AllReadyH.consU rfl (fun K' hK' => ?_) AllReadyH.nil
          rw [if_pos (by rfl)]
          refine rg_appendU _ _ 42 42 rfl _ _ v4 rfl rfl hrun ?_
          refine hK'.out _ _ (HXS.out _ HI4.out.bel) (fun hHeld => ?_)
          clear hK' K' hrun
          simp only [Act.put, List.setIfInBounds_toArray, List.set_cons_zero, List.set_cons_succ]
          refine wpAnyH_ready (rs := [38]) (by kernel_rfl) (by simp) ?_
          refine AllReadyH.consU rfl (fun K' hK' => ?_) AllReadyH.nil
          go_simp
          refine hK'.out _ _ hHeld (fun _ => ?_)
          clear hK' K' hHeld
          refine wpAnyH_done (by kernel_rfl) ?_ _
          go_wp2_with fail
          go_roundw
          case rel => exact ⟨j + 1, by omega, by go_num, HI4⟩
          case measure => simp [intOf]; omega
        · obtain rfl : j = 3 := by omega
          have hlj2 : ¬ ((3 : Nat) : Int) < 3 := by omega
          have hlj3 : ¬ (3 : Int) < 3 := by omega
          obtain ⟨l2, hl2⟩ : ∃ l, l = l1 ++ h6 ++ (so6 p r).take (2 * 3) := ⟨_, rfl⟩
          have HLL : Hid (l2.length ≤ 4398046511204) := by
            unfold Hid
            rw [hl2, List.length_append, List.length_append, HE6.out, List.length_take]
            have := HLK.out
            omega
          rw [← hl2] at HI
          have HL2 := hid hl2
          clear hl2 hwo
          have HCX := hid (vonward_any p b V L size out r n aL cL (some ⟨br, orr, none⟩) cr (some ⟨bn, onn, none⟩) cn wr HH.out (HI.out.view HV.out))
          go_wp2_with fail
          refine HCX.out.mono ?_
          rintro e wa ⟨G, rfl, hG1, hG2, hb1⟩
          have hI1 := HI.out.step hb1
          obtain ⟨q4, hq4⟩ : ∃ l : List Int, l = [(smt p L n (fun k _ => (k : Int)) - smt p L r (tvN p r)) % (p : Int), (zat n 0 - smt p L r (fun _ => tvF p r)) % (p : Int), (zat n 1 - smt p L r (fun _ => tvA p r)) % (p : Int), (zat n 2 - smt p L r (fun _ => tvR r)) % (p : Int)] := ⟨_, rfl⟩
          rw [← hq4] at hG2 ⊢
          have ek : q4.length = 4 := by rw [hq4]; rfl
          obtain ⟨vb, wb, hrun, hI2⟩ := sd_app hI1 hG2 (by have := HLL.out; omega)
          have HNX : Hid ((l2 ++ q4).length ≤ 4398046511304) := by unfold Hid; rw [List.length_append, ek]; have := HLL.out; omega
          rw [ek] at hrun ⊢
          have HI5 := hid hI2
          have HQq4 := hid hq4
          clear hI1 hI2 hG1 hG2 hb1 HCX hq4 ek
          go_wp2_with (at_builtin; refine wpList_appT rfl _ _ rfl rfl _ _ vb rfl rfl hrun ?_)
          clear hrun
          obtain ⟨l3, hl3⟩ : ∃ l, l = l2 ++ q4 := ⟨_, rfl⟩
          rw [← hl3] at HI5 HNX
          have HL3 := hid hl3
          have HLL3 := HNX
          clear hl3 HNX
          have HSO : Hid (∀ W, Below w.heap.size w W → Calls Tryd.prog 42 #[.pointer (some ⟨V, 0, none⟩), .int .i64 (zat r 15), .int .i64 (zat r 19), .int .i64 (zat n 12), .int .i64 (zat n 16)] W (NewL [ord1 p (zat r 15) (zat n 12), ord2 p (zat r 15) (zat r 19) (zat n 12) (zat n 16)] W)) := fun W h => vsorted_any p b V L size out r n aL cL (some ⟨br, orr, none⟩) cr (some ⟨bn, onn, none⟩) cn W HH.out (HV.out.below h) _ _ _ _ ⟨HH.out.fr _, HH.out.fr _, HH.out.fn _, HH.out.fn _⟩
          have HXS : Hid (∀ W, Below w.heap.size w W → (W.cell? ⟨V, 4, none⟩ = some (.slice (some ⟨br, orr, none⟩) lr cr) ∧ W.cell? ⟨V, 5, none⟩ = some (.slice (some ⟨bn, onn, none⟩) ln cn) ∧ W.cell? ⟨br, orr + 15, none⟩ = some (.int .i64 (zat r 15)) ∧ W.cell? ⟨br, orr + 19, none⟩ = some (.int .i64 (zat r 19)) ∧ W.cell? ⟨bn, onn + 12, none⟩ = some (.int .i64 (zat n 12)) ∧ W.cell? ⟨bn, onn + 16, none⟩ = some (.int .i64 (zat n 16)))) := fun W h => ⟨(HXC.out W h).2.1, (HXC.out W h).2.2, HXR.out W 15 h (by omega), HXR.out W 19 h (by omega), HXN.out W 12 h (by omega), HXN.out W 16 h (by omega)⟩
          have lt15 : (15 : Int) < (lr : Int) := by have := HLR.out; omega
          have lt19 : (19 : Int) < (lr : Int) := by have := HLR.out; omega
          have lt12 : (12 : Int) < (ln : Int) := by have := HLN'.out; omega
          have lt16 : (16 : Int) < (ln : Int) := by have := HLN'.out; omega
          obtain ⟨s2, hs2⟩ : ∃ l : List Int, l = [ord1 p (zat r 15) (zat n 12), ord2 p (zat r 15) (zat r 19) (zat n 12) (zat n 16)] := ⟨_, rfl⟩
          have HS2 := hid hs2
          clear hs2
          generalize hz1' : zat r 15 = z1 at HSO HXS HS2
          generalize hz2' : zat r 19 = z2 at HSO HXS HS2
          generalize hz3' : zat n 12 = z3 at HSO HXS HS2
          generalize hz4' : zat n 16 = z4 at HSO HXS HS2
          generalize ho1' : ord1 p z1 z3 = o1 at HSO HS2
          generalize ho2' : ord2 p z1 z2 z3 z4 = o2 at HSO HS2
          have HZZ : Hid (o1 = ord1 p (zat r 15) (zat n 12) ∧ o2 = ord2 p (zat r 15) (zat r 19) (zat n 12) (zat n 16)) := by unfold Hid; rw [hz1', hz2', hz3', hz4', ho1', ho2']; exact ⟨rfl, rfl⟩
          clear hz1' hz2' hz3' hz4' ho1' ho2'
          obtain ⟨x4, x5, y1, y2, y3, y4⟩ := HXS.out wb HI5.out.bel
          have HBD : Hid (Below w.heap.size w wb.drew) := HI5.out.bel.drew
          have HID : Hid (SdI p b V L size out r n aL cL (some ⟨br, orr, none⟩) cr (some ⟨bn, onn, none⟩) cn w l3 vb wb.drew) := HI5.out.step (Below.refl _ _).drew
          go_wp2_with fail
          refine wp_region_held_drew (S := (fun W => W.cell? ⟨V, 4, none⟩ = some (.slice (some ⟨br, orr, none⟩) lr cr) ∧ W.cell? ⟨V, 5, none⟩ = some (.slice (some ⟨bn, onn, none⟩) ln cn) ∧ W.cell? ⟨br, orr + 15, none⟩ = some (.int .i64 z1) ∧ W.cell? ⟨br, orr + 19, none⟩ = some (.int .i64 z2) ∧ W.cell? ⟨bn, onn + 12, none⟩ = some (.int .i64 z3) ∧ W.cell? ⟨bn, onn + 16, none⟩ = some (.int .i64 z4))) (by kernel_rfl) ⟨x4, x5, y1, y2, y3, y4⟩ (fun hHeld => ?_)
          refine wpAnyH_takeU (i := 0) (v := vb) rfl (by kernel_rfl) (by kernel_rfl) (by kernel_rfl) (fun _ _ _ h => h) (by rfl) (fun W hC => by go_simp) hHeld ?_
          simp only [Act.put, List.setIfInBounds_toArray, List.set_cons_zero, List.set_cons_succ]
          refine wpAnyH_takeU (i := 1) (v := .pointer (some ⟨V, 0, none⟩)) rfl (by kernel_rfl) (by kernel_rfl) (by kernel_rfl) (fun _ _ _ h => h) (by rfl) (fun W hC => by go_simp) hHeld ?_
          simp only [Act.put, List.setIfInBounds_toArray, List.set_cons_zero, List.set_cons_succ]
          refine wpAnyH_takeU (i := 2) (v := .pointer (some ⟨V, 0, none⟩)) rfl (by kernel_rfl) (by kernel_rfl) (by kernel_rfl) (fun _ _ _ h => h) (by rfl) (fun W hC => by go_simp) hHeld ?_
          simp only [Act.put, List.setIfInBounds_toArray, List.set_cons_zero, List.set_cons_succ]
          refine wpAnyH_takeU (i := 3) (v := .pointer (some ⟨V, 0, none⟩)) rfl (by kernel_rfl) (by kernel_rfl) (by kernel_rfl) (fun _ _ _ h => h) (by rfl) (fun W hC => by go_simp) hHeld ?_
          simp only [Act.put, List.setIfInBounds_toArray, List.set_cons_zero, List.set_cons_succ]
          refine wpAnyH_takeU (i := 4) (v := .pointer (some ⟨V, 4, none⟩)) rfl (by kernel_rfl) (by kernel_rfl) (by kernel_rfl) (fun _ _ _ h => h) (by rfl) (fun W hC => by go_simp) hHeld ?_
          simp only [Act.put, List.setIfInBounds_toArray, List.set_cons_zero, List.set_cons_succ]
          refine wpAnyH_takeU (i := 5) (v := .slice (some ⟨br, orr, none⟩) lr cr) rfl (by kernel_rfl) (by kernel_rfl) (by kernel_rfl) (fun _ _ _ h => h) (by rfl) (fun W hC => by (obtain ⟨g0, g1, g2, g3, g4, g5⟩ := hC); go_simp) hHeld ?_
          simp only [Act.put, List.setIfInBounds_toArray, List.set_cons_zero, List.set_cons_succ]
          refine wpAnyH_takeU (i := 6) (v := .pointer (some ⟨br, orr + 15, none⟩)) rfl (by kernel_rfl) (by kernel_rfl) (by kernel_rfl) (fun _ _ _ h => h) (by rfl) (fun W hC => by go_simp) hHeld ?_
          simp only [Act.put, List.setIfInBounds_toArray, List.set_cons_zero, List.set_cons_succ]
          refine wpAnyH_takeU (i := 7) (v := .int .i64 z1) rfl (by kernel_rfl) (by kernel_rfl) (by kernel_rfl) (fun _ _ _ h => h) (by rfl) (fun W hC => by (obtain ⟨g0, g1, g2, g3, g4, g5⟩ := hC); go_simp) hHeld ?_
          simp only [Act.put, List.setIfInBounds_toArray, List.set_cons_zero, List.set_cons_succ]
          refine wpAnyH_takeU (i := 8) (v := .pointer (some ⟨V, 0, none⟩)) rfl (by kernel_rfl) (by kernel_rfl) (by kernel_rfl) (fun _ _ _ h => h) (by rfl) (fun W hC => by go_simp) hHeld ?_
          simp only [Act.put, List.setIfInBounds_toArray, List.set_cons_zero, List.set_cons_succ]
          refine wpAnyH_takeU (i := 9) (v := .pointer (some ⟨V, 0, none⟩)) rfl (by kernel_rfl) (by kernel_rfl) (by kernel_rfl) (fun _ _ _ h => h) (by rfl) (fun W hC => by go_simp) hHeld ?_
          simp only [Act.put, List.setIfInBounds_toArray, List.set_cons_zero, List.set_cons_succ]
          refine wpAnyH_takeU (i := 10) (v := .pointer (some ⟨V, 4, none⟩)) rfl (by kernel_rfl) (by kernel_rfl) (by kernel_rfl) (fun _ _ _ h => h) (by rfl) (fun W hC => by go_simp) hHeld ?_
          simp only [Act.put, List.setIfInBounds_toArray, List.set_cons_zero, List.set_cons_succ]
          refine wpAnyH_takeU (i := 11) (v := .slice (some ⟨br, orr, none⟩) lr cr) rfl (by kernel_rfl) (by kernel_rfl) (by kernel_rfl) (fun _ _ _ h => h) (by rfl) (fun W hC => by (obtain ⟨g0, g1, g2, g3, g4, g5⟩ := hC); go_simp) hHeld ?_
          simp only [Act.put, List.setIfInBounds_toArray, List.set_cons_zero, List.set_cons_succ]
          refine wpAnyH_takeU (i := 12) (v := .pointer (some ⟨br, orr + 19, none⟩)) rfl (by kernel_rfl) (by kernel_rfl) (by kernel_rfl) (fun _ _ _ h => h) (by rfl) (fun W hC => by go_simp) hHeld ?_
          simp only [Act.put, List.setIfInBounds_toArray, List.set_cons_zero, List.set_cons_succ]
          refine wpAnyH_takeU (i := 13) (v := .int .i64 z2) rfl (by kernel_rfl) (by kernel_rfl) (by kernel_rfl) (fun _ _ _ h => h) (by rfl) (fun W hC => by (obtain ⟨g0, g1, g2, g3, g4, g5⟩ := hC); go_simp) hHeld ?_
          simp only [Act.put, List.setIfInBounds_toArray, List.set_cons_zero, List.set_cons_succ]
          refine wpAnyH_takeU (i := 14) (v := .pointer (some ⟨V, 0, none⟩)) rfl (by kernel_rfl) (by kernel_rfl) (by kernel_rfl) (fun _ _ _ h => h) (by rfl) (fun W hC => by go_simp) hHeld ?_
          simp only [Act.put, List.setIfInBounds_toArray, List.set_cons_zero, List.set_cons_succ]
          refine wpAnyH_takeU (i := 15) (v := .pointer (some ⟨V, 0, none⟩)) rfl (by kernel_rfl) (by kernel_rfl) (by kernel_rfl) (fun _ _ _ h => h) (by rfl) (fun W hC => by go_simp) hHeld ?_
          simp only [Act.put, List.setIfInBounds_toArray, List.set_cons_zero, List.set_cons_succ]
          refine wpAnyH_takeU (i := 16) (v := .pointer (some ⟨V, 5, none⟩)) rfl (by kernel_rfl) (by kernel_rfl) (by kernel_rfl) (fun _ _ _ h => h) (by rfl) (fun W hC => by go_simp) hHeld ?_
          simp only [Act.put, List.setIfInBounds_toArray, List.set_cons_zero, List.set_cons_succ]
          refine wpAnyH_takeU (i := 17) (v := .slice (some ⟨bn, onn, none⟩) ln cn) rfl (by kernel_rfl) (by kernel_rfl) (by kernel_rfl) (fun _ _ _ h => h) (by rfl) (fun W hC => by (obtain ⟨g0, g1, g2, g3, g4, g5⟩ := hC); go_simp) hHeld ?_
          simp only [Act.put, List.setIfInBounds_toArray, List.set_cons_zero, List.set_cons_succ]
          refine wpAnyH_takeU (i := 18) (v := .pointer (some ⟨bn, onn + 12, none⟩)) rfl (by kernel_rfl) (by kernel_rfl) (by kernel_rfl) (fun _ _ _ h => h) (by rfl) (fun W hC => by go_simp) hHeld ?_
          simp only [Act.put, List.setIfInBounds_toArray, List.set_cons_zero, List.set_cons_succ]
          refine wpAnyH_takeU (i := 19) (v := .int .i64 z3) rfl (by kernel_rfl) (by kernel_rfl) (by kernel_rfl) (fun _ _ _ h => h) (by rfl) (fun W hC => by (obtain ⟨g0, g1, g2, g3, g4, g5⟩ := hC); go_simp) hHeld ?_
          simp only [Act.put, List.setIfInBounds_toArray, List.set_cons_zero, List.set_cons_succ]
          refine wpAnyH_takeU (i := 20) (v := .pointer (some ⟨V, 0, none⟩)) rfl (by kernel_rfl) (by kernel_rfl) (by kernel_rfl) (fun _ _ _ h => h) (by rfl) (fun W hC => by go_simp) hHeld ?_
          simp only [Act.put, List.setIfInBounds_toArray, List.set_cons_zero, List.set_cons_succ]
          refine wpAnyH_takeU (i := 21) (v := .pointer (some ⟨V, 0, none⟩)) rfl (by kernel_rfl) (by kernel_rfl) (by kernel_rfl) (fun _ _ _ h => h) (by rfl) (fun W hC => by go_simp) hHeld ?_
          simp only [Act.put, List.setIfInBounds_toArray, List.set_cons_zero, List.set_cons_succ]
          refine wpAnyH_takeU (i := 22) (v := .pointer (some ⟨V, 5, none⟩)) rfl (by kernel_rfl) (by kernel_rfl) (by kernel_rfl) (fun _ _ _ h => h) (by rfl) (fun W hC => by go_simp) hHeld ?_
          simp only [Act.put, List.setIfInBounds_toArray, List.set_cons_zero, List.set_cons_succ]
          refine wpAnyH_takeU (i := 23) (v := .slice (some ⟨bn, onn, none⟩) ln cn) rfl (by kernel_rfl) (by kernel_rfl) (by kernel_rfl) (fun _ _ _ h => h) (by rfl) (fun W hC => by (obtain ⟨g0, g1, g2, g3, g4, g5⟩ := hC); go_simp) hHeld ?_
          simp only [Act.put, List.setIfInBounds_toArray, List.set_cons_zero, List.set_cons_succ]
          refine wpAnyH_takeU (i := 24) (v := .pointer (some ⟨bn, onn + 16, none⟩)) rfl (by kernel_rfl) (by kernel_rfl) (by kernel_rfl) (fun _ _ _ h => h) (by rfl) (fun W hC => by go_simp) hHeld ?_
          simp only [Act.put, List.setIfInBounds_toArray, List.set_cons_zero, List.set_cons_succ]
          refine wpAnyH_takeU (i := 25) (v := .int .i64 z4) rfl (by kernel_rfl) (by kernel_rfl) (by kernel_rfl) (fun _ _ _ h => h) (by rfl) (fun W hC => by (obtain ⟨g0, g1, g2, g3, g4, g5⟩ := hC); go_simp) hHeld ?_
          simp only [Act.put, List.setIfInBounds_toArray, List.set_cons_zero, List.set_cons_succ]
          refine wpAnyH_ready (rs := [26]) (by kernel_rfl) (by simp) ?_
          refine AllReadyH.consU rfl (fun K' hK' => ?_) AllReadyH.nil
          go_simp
          refine (HSO.out _ HBD.out).mono ?_
          rintro e w3 ⟨G, rfl, hG1, hG2, hb3⟩
          have hI3 := HID.out.step hb3
          refine hK'.out _ _ (HXS.out _ hI3.bel) (fun hHeld => ?_)
          clear hK' K'
          (try simp only [Act.put, List.setIfInBounds_toArray, List.set_cons_zero, List.set_cons_succ])
          obtain ⟨v4, w4, hrun, hI4⟩ := sd_app hI3 hG2 (by have := HLL3.out; simp only [List.length_cons, List.length_nil]; omega)
          simp only [List.length_cons, List.length_nil, Nat.zero_add] at hrun
          rw [← HS2.out] at hI4
          have HI4 := hid hI4
          clear hI3 hI4 hG1 hG2 hb3
          refine wpAnyH_ready (rs := [27]) (by kernel_rfl) (by simp) ?_
          refine AllReadyH.consU rfl (fun K' hK' => ?_) AllReadyH.nil
          rw [if_pos (by rfl)]
          refine rg_appendU _ _ 42 42 rfl _ _ v4 rfl rfl hrun ?_
          refine hK'.out _ _ (HXS.out _ HI4.out.bel) (fun hHeld => ?_)
          clear hK' K' hrun
          simp only [Act.put, List.setIfInBounds_toArray, List.set_cons_zero, List.set_cons_succ]
          refine wpAnyH_ready (rs := [28]) (by kernel_rfl) (by simp) ?_
          refine AllReadyH.consU rfl (fun K' hK' => ?_) AllReadyH.nil
          go_simp
          refine hK'.out _ _ hHeld (fun _ => ?_)
          clear hK' K' hHeld
          refine wpAnyH_done (by kernel_rfl) ?_ _
          clear HXS HSO x4 x5 y1 y2 y3 y4
          have HLL4 : Hid ((l3 ++ s2).length ≤ 4398046511404) := by unfold Hid; rw [List.length_append, HS2.out]; have := HLL3.out; simp only [List.length_cons, List.length_nil]; omega
          have HCX := hid (vends_any p b V L size out r n aL cL (some ⟨br, orr, none⟩) cr (some ⟨bn, onn, none⟩) cn w4 HH.out (HI4.out.view HV.out))
          go_wp2_with fail
          refine HCX.out.mono ?_
          rintro e wa ⟨G, rfl, hG1, hG2, hb1⟩
          have hI1 := HI4.out.step hb1
          obtain ⟨q8, hq8⟩ : ∃ l : List Int, l = [(zat r 20 - 1) % (p : Int), (zat r 0 - 1) % (p : Int), (zat r 1 - 1 - size) % (p : Int), zat r 2 % (p : Int), zat r 12 % (p : Int), zat r 16 % (p : Int), (smt p L r (fun _ => tvH) - 1) % (p : Int), (zat r 7 - out) % (p : Int)] := ⟨_, rfl⟩
          rw [← hq8] at hG2 ⊢
          have ek : q8.length = 8 := by rw [hq8]; rfl
          obtain ⟨vb, wb, hrun, hI2⟩ := sd_app hI1 hG2 (by have := HLL4.out; omega)
          have HNX : Hid (((l3 ++ s2) ++ q8).length ≤ 4398046511504) := by unfold Hid; rw [List.length_append, ek]; have := HLL4.out; omega
          rw [ek] at hrun ⊢
          have HI6 := hid hI2
          have HQq8 := hid hq8
          clear hI1 hI2 hG1 hG2 hb1 HCX hq8 ek
          go_wp2_with (at_builtin; refine wpList_appT rfl _ _ rfl rfl _ _ vb rfl rfl hrun ?_)
          clear hrun
          go_wp2_with fail
          refine HRR.out vb wb ?_
          have hE : l3 ++ s2 ++ q8 = rls p L size out r n := by
            rw [HL3.out, HL2.out, HS2.out, HQq8.out, HQq4.out, HL1.out, HH6.out, HZZ.out.1, HZZ.out.2, HNL.out]
            unfold rls rl26 so6
            simp only [List.append_assoc]
            rfl
          rw [← hE]
          exact HI6.out

end Go.Proofs.YtaibngnabhmabajDoor

namespace Go.Proofs.YtaibngnabhmabajDoor
open Go.RowKit Go.Maps

/-- does a rule say something of a row? -/
def spk (l n i k : Nat) : Bool := if k < l + 12 then true else if k < l + 18 then decide (i ≠ n - 1) else if k < l + 24 then decide (i = 0) else decide (i = n - 1)
/-- what a rule says, where rows stand behind one another -/
def rvl (p : Nat) (L : List InsZ) (size out : Int) (rows : List (List Int)) (i k : Nat) : Int := zat (rls p L size out (rat rows i) (rat rows (min (i + 1) (rows.length - 1)))) k
/-- a rule that does not hold -/
def brkn (p : Nat) (L : List InsZ) (size out : Int) (rows : List (List Int)) (i k : Nat) : Bool := decide (rvl p L size out rows i k ≠ 0) && spk L.length rows.length i k
/-- the first of so many -/
def FstB (P : Nat → Bool) (m : Nat) (z : Int) : Prop := (z = -1 ∧ ∀ k, k < m → P k = false) ∨ ∃ k, k < m ∧ z = (k : Int) ∧ P k = true ∧ ∀ j, j < k → P j = false
/-- the first rule of all rows that does not hold, and the first row of it -/
def MinB (P : Nat → Nat → Bool) (m n : Nat) (z x : Int) : Prop := (z = -1 ∧ x = 0 ∧ ∀ i, i < n → ∀ k, k < m → P i k = false) ∨
  ∃ k i, k < m ∧ i < n ∧ z = (k : Int) ∧ x = (i : Int) ∧ P i k = true ∧ (∀ i', i' < n → ∀ j, j < k → P i' j = false) ∧ ∀ i', i' < i → P i' k = false
theorem MinB.one {P : Nat → Nat → Bool} {m n : Nat} {z x z' x' : Int} (h : MinB P m n z x) (h' : MinB P m n z' x') : z = z' ∧ x = x' := by
  rcases h with ⟨rfl, rfl, h1⟩ | ⟨k, i, hk, hi, rfl, rfl, h2, h3, h4⟩
  · rcases h' with ⟨rfl, rfl, _⟩ | ⟨k, i, hk, hi, rfl, rfl, h2, _⟩
    · exact ⟨rfl, rfl⟩
    · rw [h1 i hi k hk] at h2; cases h2
  · rcases h' with ⟨rfl, rfl, h1⟩ | ⟨k', i', hk', hi', rfl, rfl, h2', h3', h4'⟩
    · rw [h1 i hi k hk] at h2; cases h2
    · have hkk : k = k' := by
        rcases Nat.lt_trichotomy k k' with g | g | g
        · rw [h3' i hi k g] at h2; cases h2
        · exact g
        · rw [h3 i' hi' k' g] at h2'; cases h2'
      subst hkk
      have hii : i = i' := by
        rcases Nat.lt_trichotomy i i' with g | g | g
        · rw [h4' i g] at h2; cases h2
        · exact g
        · rw [h4 i' g] at h2'; cases h2'
      subst hii
      exact ⟨rfl, rfl⟩
theorem MinB.start (P : Nat → Nat → Bool) (m : Nat) : MinB P m 0 (-1) 0 := .inl ⟨rfl, rfl, fun _ h => absurd h (Nat.not_lt_zero _)⟩
/-- one row more: none of it, or none that is earlier -/
theorem MinB.keep {P : Nat → Nat → Bool} {m n : Nat} {z x f : Int} (h : MinB P m n z x) (hf : FstB (P n) m f) (hno : ¬ (0 ≤ f ∧ (z < 0 ∨ f < z))) : MinB P m (n + 1) z x := by
  rcases h with ⟨rfl, rfl, h1⟩ | ⟨k, i, hk, hi, rfl, rfl, h2, h3, h4⟩
  · rcases hf with ⟨rfl, hf⟩ | ⟨k, hk, rfl, _⟩
    · refine .inl ⟨rfl, rfl, fun i hi => ?_⟩
      by_cases e : i = n
      · subst e; exact hf
      · exact h1 i (by omega)
    · exact absurd ⟨by omega, .inl (by omega)⟩ hno
  · refine .inr ⟨k, i, hk, by omega, rfl, rfl, h2, fun i' hi' j hj => ?_, h4⟩
    by_cases e : i' = n
    · subst e
      rcases hf with ⟨_, hf⟩ | ⟨k', hk', rfl, _, hf⟩
      · exact hf j (by omega)
      · have : ¬ ((k' : Int) < (k : Int)) := fun h => hno ⟨by omega, .inr h⟩
        exact hf j (by omega)
    · exact h3 i' (by omega) j hj
/-- .. or one that is earlier -/
theorem MinB.take {P : Nat → Nat → Bool} {m n : Nat} {z x f : Int} (h : MinB P m n z x) (hf : FstB (P n) m f) (hyes : 0 ≤ f ∧ (z < 0 ∨ f < z)) : MinB P m (n + 1) f (n : Int) := by
  rcases hf with ⟨rfl, hf⟩ | ⟨k', hk', rfl, hp, hf⟩
  · omega
  · refine .inr ⟨k', n, hk', by omega, rfl, rfl, hp, fun i' hi' j hj => ?_, fun i' hi' => ?_⟩
    · by_cases e : i' = n
      · subst e; exact hf j hj
      · rcases h with ⟨rfl, rfl, h1⟩ | ⟨k, i, hk, hi, rfl, rfl, h2, h3, h4⟩
        · exact h1 i' (by omega) j (by omega)
        · exact h3 i' (by omega) j (by omega)
    · rcases h with ⟨rfl, rfl, h1⟩ | ⟨k, i, hk, hi, rfl, rfl, h2, h3, h4⟩
      · exact h1 i' hi' k' hk'
      · exact h3 i' hi' k' (by omega)
/-- what stands in the next row makes no difference to a rule of the last -/
theorem rls_next (p : Nat) (L : List InsZ) (size out : Int) (r n n' : List Int) {k : Nat} (h : ¬ (L.length + 12 ≤ k ∧ k < L.length + 18)) : zat (rls p L size out r n) k = zat (rls p L size out r n') k := by
  by_cases hk : k < L.length
  · rw [rls_low _ _ _ _ _ _ hk, rls_low _ _ _ _ _ _ hk]
  · obtain ⟨j, rfl⟩ : ∃ j, k = L.length + j := ⟨k - L.length, by omega⟩
    rw [rls_high, rls_high]
    have hj : ¬ (12 ≤ j ∧ j < 18) := by omega
    by_cases h26 : j < 26
    · have : j = 0 ∨ j = 1 ∨ j = 2 ∨ j = 3 ∨ j = 4 ∨ j = 5 ∨ j = 6 ∨ j = 7 ∨ j = 8 ∨ j = 9 ∨ j = 10 ∨ j = 11 ∨ j = 18 ∨ j = 19 ∨ j = 20 ∨ j = 21 ∨ j = 22 ∨ j = 23 ∨ j = 24 ∨ j = 25 := by omega
      rcases this with rfl | rfl | rfl | rfl | rfl | rfl | rfl | rfl | rfl | rfl | rfl | rfl | rfl | rfl | rfl | rfl | rfl | rfl | rfl | rfl <;> rfl
    · have e : ∀ m : List Int, zat (rl26 p L size out r m) j = 0 := fun m => by simp [zat, List.getElem?_eq_none (show (rl26 p L size out r m).length ≤ j by simp [rl26]; omega)]
      rw [e, e]
/-- .. so the rows may stand in a circle -/
theorem brkn_circle (p : Nat) (L : List InsZ) (size out : Int) (rows : List (List Int)) {i : Nat} (k : Nat) (hi : i < rows.length) : brkn p L size out rows i k = (decide (zat (rls p L size out (rat rows i) (rat rows ((i + 1) % rows.length))) k ≠ 0) && spk L.length rows.length i k) := by
  unfold brkn rvl
  by_cases hl : i = rows.length - 1
  · by_cases hk : L.length + 12 ≤ k ∧ k < L.length + 18
    · have : spk L.length rows.length i k = false := by
        unfold spk
        rw [if_neg (by omega), if_pos (by omega)]
        simp [hl]
      simp only [this, Bool.and_false]
    · rw [rls_next p L size out (rat rows i) _ (rat rows ((i + 1) % rows.length)) hk]
  · rw [Nat.min_eq_left (by omega), Nat.mod_eq_of_lt (by omega)]

end Go.Proofs.YtaibngnabhmabajDoor

namespace Go.Proofs
open Go.Shelf

end Go.Proofs
