/- Package source: the value of what has to be so. Package source: the value of a name that is given one. Package source: values, of all parts. Package source: what main defers. -/
import Derived.Test.YtlgcmeachjjmgajGreatDoorBeW
namespace Go.Proofs.YtlgcmeachjjmgajGreatDoor
open Go.RowKit

set_option maxRecDepth 100000 in
set_option maxHeartbeats 2000000 in
theorem val_need (p V fb pg fuel : Nat) (fs : List FnT) (w0 : World) (R : Nat) (h3 : 3 ≤ p) (hp : w0.cell? ⟨fb, 0, none⟩ = some (.int .i64 p)) (hV0 : w0.heap.size ≤ V) (IH : EvC p V fb pg fuel fs w0 R) (b : Nat) (a : Option Addr) (sc : List (List UInt8 × Int)) (k : Nat) (w : World) (hb : Below w0.heap.size w0 w) (hE : EvAt w V fb pg k fuel) (hf : fuel ≤ 1000000) (hk : k < fuel) (at' n : Nat) (nm : List UInt8) (x y z : Tr) (hP : PT 0 w0 (.node 10 nm at' n [x, y, z]) (.pointer (some ⟨b, 0, none⟩))) (hx : TW x) (hy : TW y) (hz : TW z) (hS : ScP w (.pointer a) sc) (hSB : ScB p sc) (r : ER Int) (hr : r = (evl p fs fuel R x sc (k + 1)).bind fun u k2 => (evl p fs fuel R y sc k2).bind fun v k3 => if u = v then evl p fs fuel R z sc k3 else .stop 7) (hro : r ≠ .out) :
    Calls Tryz.prog 59 #[.pointer (some ⟨V, 0, none⟩), .pointer (some ⟨b, 0, none⟩), .pointer a] w (EvP (Value.int .i64) V fb pg fuel w r) := by
  have HL := hid (look_any V fb pg k fuel w hE hf (by omega))
  rw [if_neg (by omega)] at HL
  have HPP := hid hP
  obtain ⟨b', av, c, e0, _, hbk, hks⟩ := hP
  injection e0 with e0
  injection e0 with e0
  injection e0 with e0
  subst e0
  obtain ⟨gk, v0, rfl, _, d0, hp0⟩ := PTBs.at hks (i := 0) (t := x) rfl
  obtain ⟨t0, rfl⟩ := PT.form hp0
  obtain ⟨g1, v1, eg, _, d1, hp1⟩ := PTBs.at hks (i := 1) (t := y) rfl
  injection eg with eg
  injection eg with eg
  subst eg
  obtain ⟨t1, rfl⟩ := PT.form hp1
  obtain ⟨g2, v2, eg, _, d2, hp2⟩ := PTBs.at hks (i := 2) (t := z) rfl
  injection eg with eg
  injection eg with eg
  subst eg
  obtain ⟨t2, rfl⟩ := PT.form hp2
  rw [Nat.zero_add] at d0 d1 d2
  have p0 : w0.cell? ⟨b, 0, none⟩ = some (.int .i64 10) := by simp [World.cell?, hbk]
  have p1 : w0.cell? ⟨b, 1, none⟩ = some (.string (bs nm)) := by simp [World.cell?, hbk]
  have p4 : w0.cell? ⟨b, 4, none⟩ = some (.slice (some ⟨gk, 0, none⟩) 3 c) := by simp [World.cell?, hbk]
  have HW : Hid (∀ w1, Fr V w w1 → w1.cell? ⟨b, 0, none⟩ = some (.int .i64 10) ∧ w1.cell? ⟨b, 1, none⟩ = some (.string (bs nm)) ∧ w1.cell? ⟨b, 4, none⟩ = some (.slice (some ⟨gk, 0, none⟩) 3 c) ∧ w1.cell? ⟨fb, 0, none⟩ = some (.int .i64 p) ∧ w1.cell? ⟨gk, 0, none⟩ = some (.pointer (some ⟨t0, 0, none⟩)) ∧ w1.cell? ⟨gk, 1, none⟩ = some (.pointer (some ⟨t1, 0, none⟩)) ∧ w1.cell? ⟨gk, 2, none⟩ = some (.pointer (some ⟨t2, 0, none⟩))) := fun w1 hf => by
    have hb1 := hb.trans (hf.1.mono hV0)
    exact ⟨(hb1.cell (p := ⟨b, 0, none⟩) (World.block_lt_of_cell? _ _ p0)).trans p0, (hb1.cell (p := ⟨b, 1, none⟩) (World.block_lt_of_cell? _ _ p1)).trans p1, (hb1.cell (p := ⟨b, 4, none⟩) (World.block_lt_of_cell? _ _ p4)).trans p4, (hb1.cell (p := ⟨fb, 0, none⟩) (World.block_lt_of_cell? _ _ hp)).trans hp, (hb1.cell (p := ⟨gk, 0, none⟩) (World.block_lt_of_cell? _ _ d0)).trans d0, (hb1.cell (p := ⟨gk, 1, none⟩) (World.block_lt_of_cell? _ _ d1)).trans d1, (hb1.cell (p := ⟨gk, 2, none⟩) (World.block_lt_of_cell? _ _ d2)).trans d2⟩
  have HI0 := hid (fun (k' : Nat) (w1 : World) (a' : Option Addr) (sc' : List (List UInt8 × Int)) (hf1 : Fr V w w1) (hE1 : EvAt w1 V fb pg k' fuel) (hk' : k' ≤ fuel) (hs : ScP w1 (.pointer a') sc') (hsb : ScB p sc') (hne : evl p fs fuel R x sc' k' ≠ .out) => IH x _ a' sc' k' w1 (hb.trans (hf1.1.mono hV0)) hE1 hk' hp0 hx hs hsb hne)
  have HI1 := hid (fun (k' : Nat) (w1 : World) (a' : Option Addr) (sc' : List (List UInt8 × Int)) (hf1 : Fr V w w1) (hE1 : EvAt w1 V fb pg k' fuel) (hk' : k' ≤ fuel) (hs : ScP w1 (.pointer a') sc') (hsb : ScB p sc') (hne : evl p fs fuel R y sc' k' ≠ .out) => IH y _ a' sc' k' w1 (hb.trans (hf1.1.mono hV0)) hE1 hk' hp1 hy hs hsb hne)
  have HI2 := hid (fun (k' : Nat) (w1 : World) (a' : Option Addr) (sc' : List (List UInt8 × Int)) (hf1 : Fr V w w1) (hE1 : EvAt w1 V fb pg k' fuel) (hk' : k' ≤ fuel) (hs : ScP w1 (.pointer a') sc') (hsb : ScB p sc') (hne : evl p fs fuel R z sc' k' ≠ .out) => IH z _ a' sc' k' w1 (hb.trans (hf1.1.mono hV0)) hE1 hk' hp2 hz hs hsb hne)
  have HSC := hid (fun (w1 : World) (hf1 : Fr V w w1) => hS.fr hE hf1)
  have HSB := hid hSB
  have HR := hid hr
  have HRO := hid hro
  have HK := hid hk
  have HB := hid hb
  have HIH := hid IH
  clear hb hE hf hk hbk hks IH hS hSB hr hro p0 p1 p4 hp d0 hp0 d1 hp1 d2 hp2
  go_enter Tryz.func59, Tryz.ntmps59
  go_wp2_with fail
  refine HL.out.mono ?_
  rintro e w1 ⟨hf1, rfl, hE1⟩
  obtain ⟨q0, q1, q4, qf, s0, s1, s2⟩ := HW.out w1 hf1
  obtain ⟨q, hq⟩ : ∃ q, q = (evl p fs fuel R x sc (k + 1)).bind fun u k2 => (evl p fs fuel R y sc k2).bind fun v k3 => ER.val (u, v) k3 := ⟨_, rfl⟩
  have hr0 := HR.out
  rw [bind_pair, ← hq] at hr0
  have HR0 := hid hr0
  have hqo : q ≠ .out := ER.bind_ne (by rw [← hr0]; exact HRO.out)
  have HT := hid (two_of p V fb pg fuel fs w0 R h3 hV0 HIH.out 10 at' n nm x y [z] b a sc (k + 1) w1 (HB.out.trans (hf1.1.mono hV0)) hE1 (by have := HK.out; omega) HPP.out hx hy (by simp) (HSC.out _ hf1) HSB.out q hq hqo)
  have HQB : Hid (∀ zz k3, q = .val zz k3 → k3 ≤ fuel) := fun zz k3 h => by
    rw [hq] at h
    obtain ⟨u, k1, e1, e2⟩ := ER.bind_val h
    obtain ⟨v, k2, e3, e4⟩ := ER.bind_val e2
    have b1 := evl_bd p fs fuel h3 R x sc (k + 1) u k1 HSB.out (by have := HK.out; omega) e1
    have b2 := evl_bd p fs fuel h3 R y sc k1 v k2 HSB.out b1.2.2 e3
    injection e4 with _ e4
    subst e4
    exact b2.2.2
  have HF1 := hid hf1
  clear hf1 hE1 HL hq hqo hr0 HR
  go_wp2_with fail
  refine HT.out.mono ?_
  intro e w2 he
  obtain ⟨hf2, he⟩ := he
  have HF2 := hid (HF1.out.trans hf2)
  cases hqq : q with
  | out => rw [hqq] at he; exact he.elim
  | stop er =>
    rw [hqq] at he
    have he' : e = pncE er := he
    subst he'
    have hr1 := HR0.out
    rw [hqq] at hr1
    have hr2 : r = .stop er := hr1
    subst hr2
    exact ⟨rfl, HF2.out, rfl⟩
  | val zz k3 =>
    rw [hqq] at he
    obtain ⟨rfl, hE2⟩ := he
    have hr1 := HR0.out
    rw [hqq] at hr1
    have hr2 : r = if zz.1 = zz.2 then evl p fs fuel R z sc k3 else .stop 7 := hr1
    have hk3 := HQB.out zz k3 hqq
    obtain ⟨e0, e1, e4, ef, r0, r1, r2⟩ := HW.out w2 HF2.out
    obtain ⟨u, v⟩ := zz
    dsimp only at hr2
    clear hr1 hqq q0 q1 q4 qf s0 s1 s2 HT
    by_cases hu : u = v
    · rw [if_pos hu] at hr2
      have HX := hid hr2
      have HC := hid (HI2.out k3 w2 a sc HF2.out hE2 hk3 (HSC.out _ HF2.out) HSB.out (by rw [← hr2]; exact HRO.out))
      have qu : (u == v) = true := by simp [hu]
      clear hr2 hE2 hf2 hu HR0
      go_wp2_with fail
      refine (must_any true w2).mono ?_
      rintro e w3 ⟨rfl, rfl⟩
      rw [if_pos rfl]
      go_wp2_with fail
      refine HC.out.mono ?_
      intro e w9 he
      obtain ⟨hf9, he⟩ := he
      have HF9 := hid (HF2.out.trans hf9)
      rw [← HX.out] at he
      clear hf9 HC HX
      cases r with
      | out => exact he.elim
      | stop er =>
        have he' : e = pncE er := he
        subst he'
        exact ⟨rfl, HF9.out, rfl⟩
      | val v9 k9 =>
        obtain ⟨rfl, hE9⟩ := he
        have HE9 := hid hE9
        clear hE9
        go_wp2_with fail
        go_ret
        exact ⟨HF9.out, rfl, HE9.out⟩
    · rw [if_neg hu] at hr2
      have qu : (u == v) = false := by simp [hu]
      subst hr2
      clear hE2 hf2 hu HR0
      go_wp2_with fail
      refine (must_any false w2).mono ?_
      rintro e w3 ⟨rfl, rfl⟩
      exact ⟨rfl, HF2.out, rfl⟩

end Go.Proofs.YtlgcmeachjjmgajGreatDoor

namespace Go.Proofs.YtlgcmeachjjmgajGreatDoor
open Go.RowKit

set_option maxRecDepth 100000 in
set_option maxHeartbeats 2000000 in
theorem val_let (p V fb pg fuel : Nat) (fs : List FnT) (w0 : World) (R : Nat) (h3 : 3 ≤ p) (hp : w0.cell? ⟨fb, 0, none⟩ = some (.int .i64 p)) (hV0 : w0.heap.size ≤ V) (IH : EvC p V fb pg fuel fs w0 R) (b : Nat) (a : Option Addr) (sc : List (List UInt8 × Int)) (k : Nat) (w : World) (hb : Below w0.heap.size w0 w) (hE : EvAt w V fb pg k fuel) (hf : fuel ≤ 1000000) (hk : k < fuel) (at' n : Nat) (nm : List UInt8) (x y : Tr) (hP : PT 0 w0 (.node 9 nm at' n [x, y]) (.pointer (some ⟨b, 0, none⟩))) (hx : TW x) (hy : TW y) (hS : ScP w (.pointer a) sc) (hSB : ScB p sc) (r : ER Int) (hr : r = (evl p fs fuel R x sc (k + 1)).bind fun u k2 => evl p fs fuel R y ((nm, u) :: sc) k2) (hro : r ≠ .out) :
    Calls Tryz.prog 59 #[.pointer (some ⟨V, 0, none⟩), .pointer (some ⟨b, 0, none⟩), .pointer a] w (EvP (Value.int .i64) V fb pg fuel w r) := by
  have HL := hid (look_any V fb pg k fuel w hE hf (by omega))
  rw [if_neg (by omega)] at HL
  have HPP := hid hP
  obtain ⟨b', av, c, e0, _, hbk, hks⟩ := hP
  injection e0 with e0
  injection e0 with e0
  injection e0 with e0
  subst e0
  obtain ⟨gk, v0, rfl, _, d0, hp0⟩ := PTBs.at hks (i := 0) (t := x) rfl
  obtain ⟨t0, rfl⟩ := PT.form hp0
  obtain ⟨g1, v1, eg, _, d1, hp1⟩ := PTBs.at hks (i := 1) (t := y) rfl
  injection eg with eg
  injection eg with eg
  subst eg
  obtain ⟨t1, rfl⟩ := PT.form hp1
  rw [Nat.zero_add] at d0 d1
  have p0 : w0.cell? ⟨b, 0, none⟩ = some (.int .i64 9) := by simp [World.cell?, hbk]
  have p1 : w0.cell? ⟨b, 1, none⟩ = some (.string (bs nm)) := by simp [World.cell?, hbk]
  have p4 : w0.cell? ⟨b, 4, none⟩ = some (.slice (some ⟨gk, 0, none⟩) 2 c) := by simp [World.cell?, hbk]
  have HW : Hid (∀ w1, Fr V w w1 → w1.cell? ⟨b, 0, none⟩ = some (.int .i64 9) ∧ w1.cell? ⟨b, 1, none⟩ = some (.string (bs nm)) ∧ w1.cell? ⟨b, 4, none⟩ = some (.slice (some ⟨gk, 0, none⟩) 2 c) ∧ w1.cell? ⟨fb, 0, none⟩ = some (.int .i64 p) ∧ w1.cell? ⟨gk, 0, none⟩ = some (.pointer (some ⟨t0, 0, none⟩)) ∧ w1.cell? ⟨gk, 1, none⟩ = some (.pointer (some ⟨t1, 0, none⟩))) := fun w1 hf => by
    have hb1 := hb.trans (hf.1.mono hV0)
    exact ⟨(hb1.cell (p := ⟨b, 0, none⟩) (World.block_lt_of_cell? _ _ p0)).trans p0, (hb1.cell (p := ⟨b, 1, none⟩) (World.block_lt_of_cell? _ _ p1)).trans p1, (hb1.cell (p := ⟨b, 4, none⟩) (World.block_lt_of_cell? _ _ p4)).trans p4, (hb1.cell (p := ⟨fb, 0, none⟩) (World.block_lt_of_cell? _ _ hp)).trans hp, (hb1.cell (p := ⟨gk, 0, none⟩) (World.block_lt_of_cell? _ _ d0)).trans d0, (hb1.cell (p := ⟨gk, 1, none⟩) (World.block_lt_of_cell? _ _ d1)).trans d1⟩
  have HI0 := hid (fun (k' : Nat) (w1 : World) (a' : Option Addr) (sc' : List (List UInt8 × Int)) (hf1 : Fr V w w1) (hE1 : EvAt w1 V fb pg k' fuel) (hk' : k' ≤ fuel) (hs : ScP w1 (.pointer a') sc') (hsb : ScB p sc') (hne : evl p fs fuel R x sc' k' ≠ .out) => IH x _ a' sc' k' w1 (hb.trans (hf1.1.mono hV0)) hE1 hk' hp0 hx hs hsb hne)
  have HI1 := hid (fun (k' : Nat) (w1 : World) (a' : Option Addr) (sc' : List (List UInt8 × Int)) (hf1 : Fr V w w1) (hE1 : EvAt w1 V fb pg k' fuel) (hk' : k' ≤ fuel) (hs : ScP w1 (.pointer a') sc') (hsb : ScB p sc') (hne : evl p fs fuel R y sc' k' ≠ .out) => IH y _ a' sc' k' w1 (hb.trans (hf1.1.mono hV0)) hE1 hk' hp1 hy hs hsb hne)
  have HSC := hid (fun (w1 : World) (hf1 : Fr V w w1) => hS.fr hE hf1)
  have HSB := hid hSB
  have HR := hid hr
  have HRO := hid hro
  have HK := hid hk
  have HB := hid hb
  have HIH := hid IH
  clear hb hE hf hk hbk hks IH hS hSB hr hro p0 p1 p4 hp d0 hp0 d1 hp1
  go_enter Tryz.func59, Tryz.ntmps59
  go_wp2_with fail
  refine HL.out.mono ?_
  rintro e w1 ⟨hf1, rfl, hE1⟩
  obtain ⟨q0, q1, q4, qf, s0, s1⟩ := HW.out w1 hf1
  have hne : evl p fs fuel R x sc (k + 1) ≠ .out := ER.bind_ne (by rw [← HR.out]; exact HRO.out)
  have HC := hid (HI0.out (k + 1) w1 a sc hf1 hE1 (by have := HK.out; omega) (HSC.out _ hf1) HSB.out hne)
  have HF1 := hid hf1
  clear hf1 hE1 HL hne
  go_wp2_with fail
  refine HC.out.mono ?_
  intro e w2 he
  obtain ⟨hf2, he⟩ := he
  have HF2 := hid (HF1.out.trans hf2)
  cases hv : evl p fs fuel R x sc (k + 1) with
  | out => rw [hv] at he; exact he.elim
  | stop er =>
    rw [hv] at he
    have he' : e = pncE er := he
    subst he'
    have hr1 := HR.out
    rw [hv] at hr1
    have hr2 : r = .stop er := hr1
    subst hr2
    exact ⟨rfl, HF2.out, rfl⟩
  | val u k2 =>
    rw [hv] at he
    obtain ⟨rfl, hE2⟩ := he
    have hr1 := HR.out
    rw [hv] at hr1
    have HX : Hid (r = evl p fs fuel R y ((nm, u) :: sc) k2) := hr1
    have hbd := evl_bd p fs fuel h3 R x sc (k + 1) u k2 HSB.out (by have := HK.out; omega) hv
    obtain ⟨e0, e1, e4, ef, r0, r1⟩ := HW.out w2 HF2.out
    have hbA : Below w2.drew.heap.size w2.drew (w2.drew.alloc (.cells #[.string (bs nm), .int .i64 u, .pointer a] 208)) := (Below.refl _ _).alloc (Nat.le_refl _) _
    have hF3 : Fr V w (w2.drew.alloc (.cells #[.string (bs nm), .int .i64 u, .pointer a] 208)) := HF2.out.drew.trans (Fr.below hbA (Nat.le_of_lt (show V < w2.drew.heap.size from hE2.lt)))
    have HC2 := hid (HI1.out k2 (w2.drew.alloc (.cells #[.string (bs nm), .int .i64 u, .pointer a] 208)) (some ⟨w2.drew.heap.size, 0, none⟩) ((nm, u) :: sc) hF3 ((hbA.block _ (show V < w2.drew.heap.size from hE2.lt)).trans hE2) hbd.2.2 (ScP.with (HSC.out _ HF2.out.drew) nm u) (fun z hz => by
      rcases List.mem_cons.1 hz with rfl | hz
      · exact hbd.1
      · exact HSB.out z hz) (by rw [← HX.out]; exact HRO.out))
    have HF3 := hid hF3
    have HBA := hid hbA
    clear hr1 hv q0 q1 q4 qf s0 s1 HC hbA hF3 hbd hE2 hf2 HR
    go_wp2_with fail
    refine wp_region_held_drew (S := (fun W => W.cell? ⟨b, 1, none⟩ = some (.string (bs nm)) ∧ W.cell? ⟨b, 4, none⟩ = some (.slice (some ⟨gk, 0, none⟩) 2 c) ∧ W.cell? ⟨gk, 1, none⟩ = some (.pointer (some ⟨t1, 0, none⟩)))) (by kernel_rfl) ⟨e1, e4, r1⟩ (fun hHeld => ?_)
    refine wpAnyH_takeS (i := 0) (v := .pointer (some ⟨V, 0, none⟩)) rfl (by kernel_rfl) (by kernel_rfl) (by kernel_rfl) (fun _ _ _ h => h) (by rfl) (fun W hC => by go_simp) hHeld ?_
    simp only [Act.put, List.setIfInBounds_toArray, List.set_cons_zero, List.set_cons_succ]
    refine wpAnyH_takeS (i := 1) (v := .pointer (some ⟨b, 0, none⟩)) rfl (by kernel_rfl) (by kernel_rfl) (by kernel_rfl) (fun _ _ _ h => h) (by rfl) (fun W hC => by go_simp) hHeld ?_
    simp only [Act.put, List.setIfInBounds_toArray, List.set_cons_zero, List.set_cons_succ]
    refine wpAnyH_takeS (i := 2) (v := .pointer (some ⟨b, 0, none⟩)) rfl (by kernel_rfl) (by kernel_rfl) (by kernel_rfl) (fun _ _ _ h => h) (by rfl) (fun W hC => by go_simp) hHeld ?_
    simp only [Act.put, List.setIfInBounds_toArray, List.set_cons_zero, List.set_cons_succ]
    refine wpAnyH_takeS (i := 3) (v := .pointer (some ⟨b, 4, none⟩)) rfl (by kernel_rfl) (by kernel_rfl) (by kernel_rfl) (fun _ _ _ h => h) (by rfl) (fun W hC => by go_simp) hHeld ?_
    simp only [Act.put, List.setIfInBounds_toArray, List.set_cons_zero, List.set_cons_succ]
    refine wpAnyH_takeS (i := 4) (v := .slice (some ⟨gk, 0, none⟩) 2 c) rfl (by kernel_rfl) (by kernel_rfl) (by kernel_rfl) (fun _ _ _ h => h) (by rfl) (fun W hC => by (obtain ⟨y0, y1, y2⟩ := hC); go_simp) hHeld ?_
    simp only [Act.put, List.setIfInBounds_toArray, List.set_cons_zero, List.set_cons_succ]
    refine wpAnyH_takeS (i := 5) (v := .pointer (some ⟨gk, 1, none⟩)) rfl (by kernel_rfl) (by kernel_rfl) (by kernel_rfl) (fun _ _ _ h => h) (by rfl) (fun W hC => by go_simp) hHeld ?_
    simp only [Act.put, List.setIfInBounds_toArray, List.set_cons_zero, List.set_cons_succ]
    refine wpAnyH_takeS (i := 6) (v := .pointer (some ⟨t1, 0, none⟩)) rfl (by kernel_rfl) (by kernel_rfl) (by kernel_rfl) (fun _ _ _ h => h) (by rfl) (fun W hC => by (obtain ⟨y0, y1, y2⟩ := hC); go_simp) hHeld ?_
    simp only [Act.put, List.setIfInBounds_toArray, List.set_cons_zero, List.set_cons_succ]
    refine wpAnyH_takeS (i := 7) (v := .pointer a) rfl (by kernel_rfl) (by kernel_rfl) (by kernel_rfl) (fun _ _ _ h => h) (by rfl) (fun W hC => by go_simp) hHeld ?_
    simp only [Act.put, List.setIfInBounds_toArray, List.set_cons_zero, List.set_cons_succ]
    refine wpAnyH_takeS (i := 8) (v := .pointer (some ⟨b, 0, none⟩)) rfl (by kernel_rfl) (by kernel_rfl) (by kernel_rfl) (fun _ _ _ h => h) (by rfl) (fun W hC => by go_simp) hHeld ?_
    simp only [Act.put, List.setIfInBounds_toArray, List.set_cons_zero, List.set_cons_succ]
    refine wpAnyH_takeS (i := 9) (v := .pointer (some ⟨b, 0, none⟩)) rfl (by kernel_rfl) (by kernel_rfl) (by kernel_rfl) (fun _ _ _ h => h) (by rfl) (fun W hC => by go_simp) hHeld ?_
    simp only [Act.put, List.setIfInBounds_toArray, List.set_cons_zero, List.set_cons_succ]
    refine wpAnyH_takeS (i := 10) (v := .pointer (some ⟨b, 1, none⟩)) rfl (by kernel_rfl) (by kernel_rfl) (by kernel_rfl) (fun _ _ _ h => h) (by rfl) (fun W hC => by go_simp) hHeld ?_
    simp only [Act.put, List.setIfInBounds_toArray, List.set_cons_zero, List.set_cons_succ]
    refine wpAnyH_takeS (i := 11) (v := .pointer (some ⟨b, 1, none⟩)) rfl (by kernel_rfl) (by kernel_rfl) (by kernel_rfl) (fun _ _ _ h => h) (by rfl) (fun W hC => by go_simp) hHeld ?_
    simp only [Act.put, List.setIfInBounds_toArray, List.set_cons_zero, List.set_cons_succ]
    refine wpAnyH_takeS (i := 12) (v := .string (bs nm)) rfl (by kernel_rfl) (by kernel_rfl) (by kernel_rfl) (fun _ _ _ h => h) (by rfl) (fun W hC => by (obtain ⟨y0, y1, y2⟩ := hC); go_simp) hHeld ?_
    simp only [Act.put, List.setIfInBounds_toArray, List.set_cons_zero, List.set_cons_succ]
    refine wpAnyH_takeS (i := 13) (v := .int .i64 u) rfl (by kernel_rfl) (by kernel_rfl) (by kernel_rfl) (fun _ _ _ h => h) (by rfl) (fun W hC => by go_simp) hHeld ?_
    simp only [Act.put, List.setIfInBounds_toArray, List.set_cons_zero, List.set_cons_succ]
    refine wpAnyH_ready (rs := [14]) (by kernel_rfl) (by simp) ?_
    refine AllReadyH.consS rfl (fun K hK => ?_) AllReadyH.nil
    go_simp
    refine (with_any (bs nm) u a w2.drew).mono ?_
    rintro e w4 ⟨rfl, rfl⟩
    refine hK.out _ _ ⟨(HBA.out.cell (p := ⟨b, 1, none⟩) (World.block_lt_of_cell? _ _ hHeld.1)).trans hHeld.1, (HBA.out.cell (p := ⟨b, 4, none⟩) (World.block_lt_of_cell? _ _ hHeld.2.1)).trans hHeld.2.1, (HBA.out.cell (p := ⟨gk, 1, none⟩) (World.block_lt_of_cell? _ _ hHeld.2.2)).trans hHeld.2.2⟩ (fun hHeld => ?_)
    clear hK K
    refine wpAnyH_ready (rs := [15]) (by kernel_rfl) (by simp) ?_
    refine AllReadyH.consS rfl (fun K hK => ?_) AllReadyH.nil
    go_simp
    refine HC2.out.mono ?_
    intro e w9 he
    obtain ⟨hf9, he⟩ := he
    have HF9 := hid (HF3.out.trans hf9)
    rw [← HX.out] at he
    have hw9 := HW.out w9 HF9.out
    clear HC2 HX
    cases r with
    | out => exact he.elim
    | stop er =>
      have he' : e = pncE er := he
      subst he'
      exact ⟨rfl, HF9.out, rfl⟩
    | val v9 k9 =>
      obtain ⟨rfl, hE9⟩ := he
      have HE9 := hid hE9
      refine hK.out _ _ ⟨hw9.2.1, hw9.2.2.1, hw9.2.2.2.2.2⟩ (fun hHeld => ?_)
      clear hK K hE9 hf9
      refine wpAnyH_ready (rs := [16]) (by kernel_rfl) (by simp) ?_
      refine AllReadyH.consS rfl (fun K hK => ?_) AllReadyH.nil
      go_simp
      refine hK.out _ _ hHeld (fun hHeld => ?_)
      clear hK K
      refine wpAnyH_done (by kernel_rfl) ?_ _
      go_wp2_with fail
      go_ret
      exact ⟨HF9.out, rfl, HE9.out⟩

end Go.Proofs.YtlgcmeachjjmgajGreatDoor

namespace Go.Proofs.YtlgcmeachjjmgajGreatDoor
open Go.RowKit

set_option maxRecDepth 10000 in
theorem value_all (p V fb pg fuel lo : Nat) (fs : List FnT) (w0 : World) (h3 : 3 ≤ p) (h4 : p ≤ 2147483647) (hpr : Num.Prime p) (hp : w0.cell? ⟨fb, 0, none⟩ = some (.int .i64 p)) (hV0 : w0.heap.size ≤ V) (hPg : PgAt lo w0 pg fs) (hW : ∀ g, g ∈ fs → FW g) (hf : fuel ≤ 1000000) : ∀ R, EvC p V fb pg fuel fs w0 R
  | 0 => by
    intro t v a sc k w _ _ _ _ _ _ _ hne
    exact absurd (by rw [evl]) hne
  | R + 1 => by
    have IH := value_all p V fb pg fuel lo fs w0 h3 h4 hpr hp hV0 hPg hW hf R
    intro t v a sc k w hb hE hk hP hT hS hSB hne
    obtain ⟨b, rfl⟩ := PT.form hP
    cases t with
    | node kd nm at' n kids =>
      unfold evl at hne ⊢
      by_cases hkf : k = fuel
      · rw [if_pos hkf]
        exact val_long V fb pg fuel _ a k w hE hf hkf
      · rw [if_neg hkf] at hne ⊢
        have hlt : k < fuel := by omega
        obtain ⟨hsh, hks⟩ := hT
        have hP2 := hP
        obtain ⟨b', av, c, e0, _, hbk, _⟩ := hP2
        injection e0 with e0
        injection e0 with e0
        injection e0 with e0
        subst e0
        rcases hsh with ⟨rfl, _, hn, _⟩ | ⟨rfl, _⟩ | ⟨rfl, hnm, _, hm⟩ | ⟨rfl, _, _, hm⟩ | ⟨h1, h2, _, _, hm⟩ | ⟨rfl, _, _, hm⟩ | ⟨h1, h2, _, _, hm⟩
        · rw [if_pos rfl]
          exact val_num p V fb pg fuel w0 h3 h4 hp hV0 b a k w hb hE hf hlt at' n nm av c kids.length hn hbk _ rfl
        · rw [if_neg (by decide), if_pos rfl] at hne ⊢
          cases hx : sc.find? (fun x => x.1 == nm) with
          | none => rw [hx] at hne; exact absurd rfl hne
          | some x => exact val_name V fb pg fuel w0 hV0 b a k w hb hE hf hlt at' n nm av c kids.length hbk sc hS x hx _ rfl
        · rw [if_neg (by decide), if_neg (by decide), if_pos rfl] at hne ⊢
          cases hx : fnOf fs nm with
          | none => rw [hx] at hne; exact absurd rfl hne
          | some g =>
            rw [hx] at hne
            dsimp only at hne ⊢
            refine val_sub V fb pg fuel w0 hV0 b a k w hb hE hf hlt 2 at' n nm av c kids.length hbk _ (.inl rfl) (fun _ w1 hf1 hE1 => ?_) (fun h => by omega)
            exact call_of p V fb pg fuel lo fs w0 R h3 hV0 hPg hW IH at' n nm kids b a sc (k + 1) w1 (hb.trans (hf1.1.mono hV0)) hE1 hlt hP hks (by have := hnm.2.1; omega) (hS.fr hE hf1) hSB g hx _ rfl hne
        · rw [if_neg (by decide), if_neg (by decide), if_neg (by decide)] at hne ⊢
          match kids, hm, hks, hP, hne with
          | [x], _, hks, hP, hne =>
            dsimp only at hne ⊢
            rw [if_pos rfl] at hne ⊢
            exact val_minus p V fb pg fuel fs w0 R h3 h4 hp hV0 IH b a sc k w hb hE hf hlt at' n nm x hP hks.1 hS hSB _ rfl hne
        · rw [if_neg (by omega), if_neg (by omega), if_neg (by omega)] at hne ⊢
          match kids, hm, hks, hP, hbk, hne with
          | [x, y], _, hks, hP, hbk, hne =>
            dsimp only at hne ⊢
            rw [if_neg (by omega)] at hne ⊢
            refine val_sub V fb pg fuel w0 hV0 b a k w hb hE hf hlt kd at' n nm av c 2 hbk _ (.inr ⟨h1, h2⟩) (fun h => by omega) (fun _ w1 hf1 hE1 => ?_)
            exact reckon_of p V fb pg fuel fs w0 R h3 h4 hpr hV0 hp IH kd at' n nm x y ⟨h1, h2⟩ b a sc (k + 1) w1 (hb.trans (hf1.1.mono hV0)) hE1 hlt hP hks.1 hks.2.1 (hS.fr hE hf1) hSB _ rfl hne
        · rw [if_neg (by decide), if_neg (by decide), if_neg (by decide)] at hne ⊢
          match kids, hm, hks, hP, hne with
          | [x, y], _, hks, hP, hne =>
            dsimp only at hne ⊢
            rw [if_pos rfl] at hne ⊢
            exact val_let p V fb pg fuel fs w0 R h3 hp hV0 IH b a sc k w hb hE hf hlt at' n nm x y hP hks.1 hks.2.1 hS hSB _ rfl hne
        · rw [if_neg (by omega), if_neg (by omega), if_neg (by omega)] at hne ⊢
          match kids, hm, hks, hP, hne with
          | [x, y, z], _, hks, hP, hne =>
            dsimp only at hne ⊢
            obtain rfl | rfl : kd = 10 ∨ kd = 11 := by omega
            · rw [if_pos rfl] at hne ⊢
              exact val_need p V fb pg fuel fs w0 R h3 hp hV0 IH b a sc k w hb hE hf hlt at' n nm x y z hP hks.1 hks.2.1 hks.2.2.1 hS hSB _ rfl hne
            · rw [if_neg (by decide), if_pos rfl] at hne ⊢
              exact val_if p V fb pg fuel fs w0 R h3 hp hV0 IH b a sc k w hb hE hf hlt at' n nm x y z hP hks.1 hks.2.1 hks.2.2.1 hS hSB _ rfl hne

end Go.Proofs.YtlgcmeachjjmgajGreatDoor

namespace Go.Proofs.YtlgcmeachjjmgajGreatDoor
open Go.RowKit

theorem fr15 (a b v : Value) : (#[a, b] ++ (Array.replicate 13 undef).setIfInBounds 3 v : Array Value) = #[a, b, undef, undef, undef, v, undef, undef, undef, undef, undef, undef, undef, undef, undef] := by kernel_rfl

set_option maxRecDepth 100000 in
set_option maxHeartbeats 400000 in
theorem catchE_idle (p q : Addr) (w : World) :
    CallsD Tryz.prog 57 #[.pointer (some p), .pointer (some q)] .returning w fun e u' w' => e = .returned (.tuple #[]) ∧ u' = .returning ∧ w' = w := by
  refine callsD_of_wpS Tryz.func57 rfl fun c₀ cs hu => ?_
  have hnil := eqS_nil
  apply wpS_seq
  apply wpS_region
  simp [wpOpsS, go_sem, recoverD, hu, Tryz.ntmps57, Exit.thenS]
  rw [fr15]
  refine wpS_of_wp ?_
  go_wp2_with fail
  cases c₀
  simp_all [bodyPostS, results, Tryz.results57]

theorem ta_ended (a : Value) (w : World) : (Instr.typeAssert (.iface 145 (.agg #[a])) 20 145 true).run Tryz.prog w = .ok (.tuple #[.agg #[a], .bool true]) w := by kernel_rfl

set_option maxRecDepth 100000 in
set_option maxHeartbeats 400000 in
theorem catchE_end (P Q er : Nat) (a b c : Value) (w : World) (h1 : w.cell? ⟨P, 0, none⟩ = some a) (h1' : w.cell? ⟨P, 1, none⟩ = some b) (h2 : w.cell? ⟨Q, 0, none⟩ = some c) (f1 : ∀ i, w.frozen? ⟨P, i, none⟩ = false) (f2 : w.frozen? ⟨Q, 0, none⟩ = false) (hPQ : P ≠ Q) :
    CallsD Tryz.prog 57 #[.pointer (some ⟨P, 0, none⟩), .pointer (some ⟨Q, 0, none⟩)] (.panicking [{ v := .iface 145 (.agg #[.int .i64 (er : Int)]), recovered := false }]) w fun e u' w' => e = .returned (.tuple #[]) ∧ u' = .panicking [{ v := .iface 145 (.agg #[.int .i64 (er : Int)]), recovered := true }] ∧
      w' = ((((w.alloc (.cells #[.int .i64 (er : Int)] 145)).drew.setCell ⟨P, 0, none⟩ (.int .i64 0)).setCell ⟨P, 1, none⟩ (.int .i64 0)).setCell ⟨Q, 0, none⟩ (.iface 72 (.int .i64 (er : Int)))) := by
  refine callsD_of_wpS Tryz.func57 rfl fun c₀ cs hu => ?_
  have hnil := neS_nil
  have hta := ta_ended
  obtain ⟨W0, hW0⟩ : ∃ W0, W0 = w.alloc (.cells #[.int .i64 (er : Int)] 145) := ⟨_, rfl⟩
  have hb0 : Below w.heap.size w W0 := by rw [hW0]; exact (Below.refl _ _).alloc (Nat.le_refl _) _
  have k1 := (hb0.cell (p := ⟨P, 0, none⟩) (World.block_lt_of_cell? _ _ h1)).trans h1
  have k1' := (hb0.cell (p := ⟨P, 1, none⟩) (World.block_lt_of_cell? _ _ h1')).trans h1'
  have m1 : ∀ i, W0.frozen? ⟨P, i, none⟩ = false := fun i => by
    have hlt : P < w.heap.size := World.block_lt_of_cell? _ _ h1
    rw [hW0, frozenS_alloc_old w _ (p := ⟨P, i, none⟩) hlt]
    exact f1 i
  have k2 := (hb0.cell (p := ⟨Q, 0, none⟩) (World.block_lt_of_cell? _ _ h2)).trans h2
  have m2 : W0.frozen? ⟨Q, 0, none⟩ = false := by rw [hW0, frozenS_alloc_old w _ (World.block_lt_of_cell? _ _ h2)]; exact f2
  have l1 := World.block_lt_of_cell? _ _ h1
  have l2 := World.block_lt_of_cell? _ _ h2
  have g0 : W0.cell? ⟨w.heap.size, 0, none⟩ = some (.int .i64 (er : Int)) := by rw [hW0]; go_simp
  clear h1 h1' h2 f1 f2 hb0
  rw [← hW0]
  apply wpS_seq
  apply wpS_region
  simp [wpOpsS, go_sem, recoverD, hu, Tryz.ntmps57, Exit.thenS]
  rw [fr15]
  refine wpS_of_wp ?_
  go_wp2_with fail
  rw [← hW0]
  have HO : Hid (∀ (W : World) (g i : Nat) (u : Value), g < w.heap.size → W.cell? ⟨w.heap.size, 0, none⟩ = some (.int .i64 (er : Int)) → (W.setCell ⟨g, i, none⟩ u).cell? ⟨w.heap.size, 0, none⟩ = some (.int .i64 (er : Int))) := fun W g i u hg h =>
    (World.cell?_of_block (w := W) (a := ⟨w.heap.size, 0, none⟩) (Below.heap_setCell _ _ _ _ (by show w.heap.size ≠ g; omega))).trans h
  clear hW0
  refine wp_region_held_drew (S := (fun W => W.cell? ⟨w.heap.size, 0, none⟩ = some (.int .i64 (er : Int)))) (by kernel_rfl) g0 (fun hHeld => ?_)
  refine wpAnyH_takeS (i := 0) (v := .agg #[.int .i64 0, .int .i64 0]) rfl (by kernel_rfl) (by kernel_rfl) (by kernel_rfl) (fun _ _ _ h => h) (by rfl) (fun W hC => by go_simp) hHeld ?_
  simp only [Act.put, List.setIfInBounds_toArray, List.set_cons_zero, List.set_cons_succ]
  refine wpAnyH_takeS (i := 1) (v := .pointer (some ⟨w.heap.size, 0, none⟩)) rfl (by kernel_rfl) (by kernel_rfl) (by kernel_rfl) (fun _ _ _ h => h) (by rfl) (fun W hC => by go_simp) hHeld ?_
  simp only [Act.put, List.setIfInBounds_toArray, List.set_cons_zero, List.set_cons_succ]
  refine wpAnyH_takeS (i := 2) (v := .int .i64 (er : Int)) rfl (by kernel_rfl) (by kernel_rfl) (by kernel_rfl) (fun _ _ _ h => h) (by rfl) (fun W hC => by go_simp) hHeld ?_
  simp only [Act.put, List.setIfInBounds_toArray, List.set_cons_zero, List.set_cons_succ]
  refine wpAnyH_takeS (i := 3) (v := .iface 72 (.int .i64 (er : Int))) rfl (by kernel_rfl) (by kernel_rfl) (by kernel_rfl) (fun _ _ _ h => h) (by rfl) (fun W hC => by go_simp) hHeld ?_
  simp only [Act.put, List.setIfInBounds_toArray, List.set_cons_zero, List.set_cons_succ]
  have j1 : W0.drew.cell? ⟨P, 0, none⟩ = some a := k1
  have j1' : W0.drew.cell? ⟨P, 1, none⟩ = some b := k1'
  have j2 : W0.drew.cell? ⟨Q, 0, none⟩ = some c := k2
  have n1 : ∀ i, W0.drew.frozen? ⟨P, i, none⟩ = false := m1
  have n2 : W0.drew.frozen? ⟨Q, 0, none⟩ = false := m2
  clear k1 k1' k2 m1 m2 g0
  obtain ⟨V0, hV0⟩ : ∃ V0, V0 = W0.drew := ⟨_, rfl⟩
  rw [← hV0] at j1 j1' j2 n1 n2 hHeld ⊢
  have HV0 := hid hV0
  clear hV0
  refine wpAnyH_ready (rs := [4]) (by kernel_rfl) (by simp) ?_
  refine AllReadyH.consS rfl (fun K hK => ?_) AllReadyH.nil
  go_simp
  refine hK.out _ _ (HO.out _ P 1 _ l1 (HO.out _ P 0 _ l1 hHeld)) (fun hHeld => ?_)
  clear hK K
  refine wpAnyH_ready (rs := [5]) (by kernel_rfl) (by simp) ?_
  refine AllReadyH.consS rfl (fun K hK => ?_) AllReadyH.nil
  go_simp
  refine hK.out _ _ (HO.out _ Q 0 _ l2 hHeld) (fun hHeld => ?_)
  clear hK K
  refine wpAnyH_done (by kernel_rfl) ?_ _
  go_wp2_with fail
  simp [bodyPostS, results, Tryz.results57]
  rw [HV0.out]
  rfl

end Go.Proofs.YtlgcmeachjjmgajGreatDoor
