/- Package source: a value, by what the part is. Package source: the value of a number. Package source: the value of a difference from nothing. Package source: the value of a choice. -/
import Derived.Test.YtlgcmeachjjmgajGreatDoorSsM
namespace Go.Proofs.YtlgcmeachjjmgajGreatDoor
open Go.RowKit

set_option maxRecDepth 100000 in
set_option maxHeartbeats 1000000 in
theorem val_long (V fb pg fuel : Nat) (b : Value) (a : Option Addr) (k : Nat) (w : World) (hE : EvAt w V fb pg k fuel) (hf : fuel ≤ 1000000) (hk : k = fuel) :
    Calls Tryz.prog 59 #[.pointer (some ⟨V, 0, none⟩), b, .pointer a] w (EvP (Value.int .i64) V fb pg fuel w (.stop 8)) := by
  have HL := hid (look_any V fb pg k fuel w hE hf (by omega))
  rw [if_pos hk] at HL
  clear hE hf hk
  go_enter Tryz.func59, Tryz.ntmps59
  go_wp2_with fail
  refine HL.out.mono ?_
  rintro e w1 ⟨hf1, rfl⟩
  exact ⟨rfl, hf1, rfl⟩

set_option maxRecDepth 100000 in
set_option maxHeartbeats 1000000 in
theorem val_name (V fb pg fuel : Nat) (w0 : World) (hV0 : w0.heap.size ≤ V) (b : Nat) (a : Option Addr) (k : Nat) (w : World) (hb : Below w0.heap.size w0 w) (hE : EvAt w V fb pg k fuel) (hf : fuel ≤ 1000000) (hk : k < fuel) (at' n : Nat) (nm : List UInt8) (av : Option Addr) (c nk : Nat) (hbk : w0.heap[b]? = some (.cells #[.int .i64 1, .string (bs nm), .int .i64 (at' : Int), .int .i64 (n : Int), .slice av nk c] 211 (0, 0))) (sc : List (List UInt8 × Int)) (hS : ScP w (.pointer a) sc) (x : List UInt8 × Int) (hx : sc.find? (fun x => x.1 == nm) = some x) (r : ER Int) (hr : r = .val x.2 (k + 1)) :
    Calls Tryz.prog 59 #[.pointer (some ⟨V, 0, none⟩), .pointer (some ⟨b, 0, none⟩), .pointer a] w (EvP (Value.int .i64) V fb pg fuel w r) := by
  have HL := hid (look_any V fb pg k fuel w hE hf (by omega))
  rw [if_neg (by omega)] at HL
  have p0 : w0.cell? ⟨b, 0, none⟩ = some (.int .i64 1) := by simp [World.cell?, hbk]
  have p1 : w0.cell? ⟨b, 1, none⟩ = some (.string (bs nm)) := by simp [World.cell?, hbk]
  have HW : Hid (∀ w1, Fr V w w1 → w1.cell? ⟨b, 0, none⟩ = some (.int .i64 1) ∧ w1.cell? ⟨b, 1, none⟩ = some (.string (bs nm)) ∧ ScP w1 (.pointer a) sc) := fun w1 hf => by
    have hb1 := hb.trans (hf.1.mono hV0)
    exact ⟨(hb1.cell (p := ⟨b, 0, none⟩) (World.block_lt_of_cell? _ _ p0)).trans p0, (hb1.cell (p := ⟨b, 1, none⟩) (World.block_lt_of_cell? _ _ p1)).trans p1, hS.fr hE hf⟩
  have HX := hid hx
  subst hr
  clear hb hE hf hk hbk hS hx p0 p1
  go_enter Tryz.func59, Tryz.ntmps59
  go_wp2_with fail
  refine HL.out.mono ?_
  rintro e w1 ⟨hf1, rfl, hE1⟩
  obtain ⟨q0, q1, hs1⟩ := HW.out w1 hf1
  have HF := hid (find_any nm _ sc w1 hs1)
  have HF1 := hid hf1
  have HE1 := hid hE1
  clear hf1 hE1 HL HW hs1
  go_wp2_with fail
  refine HF.out.mono ?_
  rintro e w2 ⟨rfl, u, rfl, hu⟩
  rw [HX.out] at hu
  obtain ⟨ub, uu, rfl, hub⟩ := hu
  have u1 : w2.cell? ⟨ub, 1, none⟩ = some (.int .i64 x.2) := by simp [World.cell?, hub]
  clear hub HF
  go_wp2_with fail
  go_ret
  exact ⟨HF1.out, rfl, HE1.out⟩

set_option maxRecDepth 100000 in
set_option maxHeartbeats 1000000 in
theorem val_sub (V fb pg fuel : Nat) (w0 : World) (hV0 : w0.heap.size ≤ V) (b : Nat) (a : Option Addr) (k : Nat) (w : World) (hb : Below w0.heap.size w0 w) (hE : EvAt w V fb pg k fuel) (hf : fuel ≤ 1000000) (hk : k < fuel) (kd at' n : Nat) (nm : List UInt8) (av : Option Addr) (c nk : Nat) (hbk : w0.heap[b]? = some (.cells #[.int .i64 (kd : Int), .string (bs nm), .int .i64 (at' : Int), .int .i64 (n : Int), .slice av nk c] 211 (0, 0))) (r : ER Int) (hkd : kd = 2 ∨ (4 ≤ kd ∧ kd ≤ 8))
    (hC : kd = 2 → ∀ w1, Fr V w w1 → EvAt w1 V fb pg (k + 1) fuel → Calls Tryz.prog 93 #[.pointer (some ⟨V, 0, none⟩), .pointer (some ⟨b, 0, none⟩), .pointer a] w1 (EvP (Value.int .i64) V fb pg fuel w1 r))
    (hC4 : 4 ≤ kd → ∀ w1, Fr V w w1 → EvAt w1 V fb pg (k + 1) fuel → Calls Tryz.prog 97 #[.pointer (some ⟨V, 0, none⟩), .pointer (some ⟨b, 0, none⟩), .pointer a] w1 (EvP (Value.int .i64) V fb pg fuel w1 r)) :
    Calls Tryz.prog 59 #[.pointer (some ⟨V, 0, none⟩), .pointer (some ⟨b, 0, none⟩), .pointer a] w (EvP (Value.int .i64) V fb pg fuel w r) := by
  have HL := hid (look_any V fb pg k fuel w hE hf (by omega))
  rw [if_neg (by omega)] at HL
  have p0 : w0.cell? ⟨b, 0, none⟩ = some (.int .i64 (kd : Int)) := by simp [World.cell?, hbk]
  have HW : Hid (∀ w1, Fr V w w1 → w1.cell? ⟨b, 0, none⟩ = some (.int .i64 (kd : Int))) := fun w1 hf => by
    have hb1 := hb.trans (hf.1.mono hV0)
    exact (hb1.cell (p := ⟨b, 0, none⟩) (World.block_lt_of_cell? _ _ p0)).trans p0
  have HC := hid hC
  have HC4 := hid hC4
  clear hb hE hf hk hbk p0 hC hC4
  have fin : ∀ (w1 : World), Fr V w w1 → ∀ (e : Ending) (w2 : World), EvP (Value.int .i64) V fb pg fuel w1 r e w2 → EvP (Value.int .i64) V fb pg fuel w r e w2 := fun w1 h1 e w2 h => ⟨h1.trans h.1, h.2⟩
  have HFIN := hid fin
  clear fin
  obtain ⟨RR, hRR⟩ : ∃ RR : Ending → World → Prop, RR = EvP (Value.int .i64) V fb pg fuel w r := ⟨_, rfl⟩
  rw [← hRR] at HFIN ⊢
  clear hRR
  obtain rfl | rfl | rfl | rfl | rfl | rfl : kd = 2 ∨ kd = 4 ∨ kd = 5 ∨ kd = 6 ∨ kd = 7 ∨ kd = 8 := by omega
  · go_enter Tryz.func59, Tryz.ntmps59
    go_wp2_with fail
    refine HL.out.mono ?_
    rintro e w1 ⟨hf1, rfl, hE1⟩
    have q0 := HW.out w1 hf1
    have hc := HC.out (by trivial) w1 hf1 hE1
    have HCC := hid hc
    have HF2 := hid (HFIN.out w1 hf1)
    clear hc hf1 hE1 HW HC HC4 HFIN HL
    go_wp2_with fail
    refine HCC.out.mono ?_
    intro e w2 he
    have hE2 := HF2.out e w2 he
    obtain ⟨_, he⟩ := he
    cases r with
    | out => exact he.elim
    | stop er =>
      have he' : e = pncE er := he
      subst he'
      exact ⟨rfl, hE2⟩
    | val v k3 =>
      obtain ⟨rfl, _⟩ := he
      have HE2 := hid hE2
      clear hE2
      go_wp2_with fail
      exact HE2.out
  · go_enter Tryz.func59, Tryz.ntmps59
    go_wp2_with fail
    refine HL.out.mono ?_
    rintro e w1 ⟨hf1, rfl, hE1⟩
    have q0 := HW.out w1 hf1
    have hc := HC4.out (by first | decide | trivial) w1 hf1 hE1
    have HCC := hid hc
    have HF2 := hid (HFIN.out w1 hf1)
    clear hc hf1 hE1 HW HC HC4 HFIN HL
    go_wp2_with fail
    refine HCC.out.mono ?_
    intro e w2 he
    have hE2 := HF2.out e w2 he
    obtain ⟨_, he⟩ := he
    cases r with
    | out => exact he.elim
    | stop er =>
      have he' : e = pncE er := he
      subst he'
      exact ⟨rfl, hE2⟩
    | val v k3 =>
      obtain ⟨rfl, _⟩ := he
      have HE2 := hid hE2
      clear hE2
      go_wp2_with fail
      exact HE2.out
  · go_enter Tryz.func59, Tryz.ntmps59
    go_wp2_with fail
    refine HL.out.mono ?_
    rintro e w1 ⟨hf1, rfl, hE1⟩
    have q0 := HW.out w1 hf1
    have hc := HC4.out (by first | decide | trivial) w1 hf1 hE1
    have HCC := hid hc
    have HF2 := hid (HFIN.out w1 hf1)
    clear hc hf1 hE1 HW HC HC4 HFIN HL
    go_wp2_with fail
    refine HCC.out.mono ?_
    intro e w2 he
    have hE2 := HF2.out e w2 he
    obtain ⟨_, he⟩ := he
    cases r with
    | out => exact he.elim
    | stop er =>
      have he' : e = pncE er := he
      subst he'
      exact ⟨rfl, hE2⟩
    | val v k3 =>
      obtain ⟨rfl, _⟩ := he
      have HE2 := hid hE2
      clear hE2
      go_wp2_with fail
      exact HE2.out
  · go_enter Tryz.func59, Tryz.ntmps59
    go_wp2_with fail
    refine HL.out.mono ?_
    rintro e w1 ⟨hf1, rfl, hE1⟩
    have q0 := HW.out w1 hf1
    have hc := HC4.out (by first | decide | trivial) w1 hf1 hE1
    have HCC := hid hc
    have HF2 := hid (HFIN.out w1 hf1)
    clear hc hf1 hE1 HW HC HC4 HFIN HL
    go_wp2_with fail
    refine HCC.out.mono ?_
    intro e w2 he
    have hE2 := HF2.out e w2 he
    obtain ⟨_, he⟩ := he
    cases r with
    | out => exact he.elim
    | stop er =>
      have he' : e = pncE er := he
      subst he'
      exact ⟨rfl, hE2⟩
    | val v k3 =>
      obtain ⟨rfl, _⟩ := he
      have HE2 := hid hE2
      clear hE2
      go_wp2_with fail
      exact HE2.out
  · go_enter Tryz.func59, Tryz.ntmps59
    go_wp2_with fail
    refine HL.out.mono ?_
    rintro e w1 ⟨hf1, rfl, hE1⟩
    have q0 := HW.out w1 hf1
    have hc := HC4.out (by first | decide | trivial) w1 hf1 hE1
    have HCC := hid hc
    have HF2 := hid (HFIN.out w1 hf1)
    clear hc hf1 hE1 HW HC HC4 HFIN HL
    go_wp2_with fail
    refine HCC.out.mono ?_
    intro e w2 he
    have hE2 := HF2.out e w2 he
    obtain ⟨_, he⟩ := he
    cases r with
    | out => exact he.elim
    | stop er =>
      have he' : e = pncE er := he
      subst he'
      exact ⟨rfl, hE2⟩
    | val v k3 =>
      obtain ⟨rfl, _⟩ := he
      have HE2 := hid hE2
      clear hE2
      go_wp2_with fail
      exact HE2.out
  · go_enter Tryz.func59, Tryz.ntmps59
    go_wp2_with fail
    refine HL.out.mono ?_
    rintro e w1 ⟨hf1, rfl, hE1⟩
    have q0 := HW.out w1 hf1
    have hc := HC4.out (by first | decide | trivial) w1 hf1 hE1
    have HCC := hid hc
    have HF2 := hid (HFIN.out w1 hf1)
    clear hc hf1 hE1 HW HC HC4 HFIN HL
    go_wp2_with fail
    refine HCC.out.mono ?_
    intro e w2 he
    have hE2 := HF2.out e w2 he
    obtain ⟨_, he⟩ := he
    cases r with
    | out => exact he.elim
    | stop er =>
      have he' : e = pncE er := he
      subst he'
      exact ⟨rfl, hE2⟩
    | val v k3 =>
      obtain ⟨rfl, _⟩ := he
      have HE2 := hid hE2
      clear hE2
      go_wp2_with fail
      exact HE2.out

end Go.Proofs.YtlgcmeachjjmgajGreatDoor

namespace Go.Proofs.YtlgcmeachjjmgajGreatDoor
open Go.RowKit

set_option maxRecDepth 100000 in
set_option maxHeartbeats 1000000 in
theorem val_num (p V fb pg fuel : Nat) (w0 : World) (h3 : 3 ≤ p) (h4 : p ≤ 2147483647) (hp : w0.cell? ⟨fb, 0, none⟩ = some (.int .i64 p)) (hV0 : w0.heap.size ≤ V) (b : Nat) (a : Option Addr) (k : Nat) (w : World) (hb : Below w0.heap.size w0 w) (hE : EvAt w V fb pg k fuel) (hf : fuel ≤ 1000000) (hk : k < fuel) (at' n : Nat) (nm : List UInt8) (av : Option Addr) (c nk : Nat) (hn : n ≤ 9223372036854775807) (hbk : w0.heap[b]? = some (.cells #[.int .i64 0, .string (bs nm), .int .i64 (at' : Int), .int .i64 (n : Int), .slice av nk c] 211 (0, 0))) (r : ER Int) (hr : r = .val ((n : Int) % (p : Int)) (k + 1)) :
    Calls Tryz.prog 59 #[.pointer (some ⟨V, 0, none⟩), .pointer (some ⟨b, 0, none⟩), .pointer a] w (EvP (Value.int .i64) V fb pg fuel w r) := by
  have HL := hid (look_any V fb pg k fuel w hE hf (by omega))
  rw [if_neg (by omega)] at HL
  have p0 : w0.cell? ⟨b, 0, none⟩ = some (.int .i64 0) := by simp [World.cell?, hbk]
  have p3 : w0.cell? ⟨b, 3, none⟩ = some (.int .i64 (n : Int)) := by simp [World.cell?, hbk]
  have HW : Hid (∀ w1, Fr V w w1 → w1.cell? ⟨b, 0, none⟩ = some (.int .i64 0) ∧ w1.cell? ⟨b, 3, none⟩ = some (.int .i64 (n : Int)) ∧ w1.cell? ⟨fb, 0, none⟩ = some (.int .i64 p)) := fun w1 hf => by
    have hb1 := hb.trans (hf.1.mono hV0)
    exact ⟨(hb1.cell (p := ⟨b, 0, none⟩) (World.block_lt_of_cell? _ _ p0)).trans p0, (hb1.cell (p := ⟨b, 3, none⟩) (World.block_lt_of_cell? _ _ p3)).trans p3, (hb1.cell (p := ⟨fb, 0, none⟩) (World.block_lt_of_cell? _ _ hp)).trans hp⟩
  subst hr
  clear hb hE hf hk hbk p0 p3 hp
  go_enter Tryz.func59, Tryz.ntmps59
  go_wp2_with fail
  refine HL.out.mono ?_
  rintro e w1 ⟨hf1, rfl, hE1⟩
  obtain ⟨q0, q3, qf⟩ := HW.out w1 hf1
  have v0 : w1.cell? ⟨V, 0, none⟩ = some (.pointer (some ⟨fb, 0, none⟩)) := by simp [World.cell?, show w1.heap[V]? = _ from hE1]
  have HF1 := hid hf1
  have HE1 := hid hE1
  clear hf1 hE1 HL HW
  go_wp2_with fail
  refine wp_region_held_drew (S := (fun W => W.cell? ⟨V, 0, none⟩ = some (.pointer (some ⟨fb, 0, none⟩)) ∧ W.cell? ⟨b, 3, none⟩ = some (.int .i64 (n : Int)) ∧ W.cell? ⟨fb, 0, none⟩ = some (.int .i64 p))) (by kernel_rfl) ⟨v0, q3, qf⟩ (fun hHeld => ?_)
  refine wpAnyH_takeS (i := 0) (v := .pointer (some ⟨V, 0, none⟩)) rfl (by kernel_rfl) (by kernel_rfl) (by kernel_rfl) (fun _ _ _ h => h) (by rfl) (fun W hC => by go_simp) hHeld ?_
  simp only [Act.put, List.setIfInBounds_toArray, List.set_cons_zero, List.set_cons_succ]
  refine wpAnyH_takeS (i := 1) (v := .pointer (some ⟨V, 0, none⟩)) rfl (by kernel_rfl) (by kernel_rfl) (by kernel_rfl) (fun _ _ _ h => h) (by rfl) (fun W hC => by go_simp) hHeld ?_
  simp only [Act.put, List.setIfInBounds_toArray, List.set_cons_zero, List.set_cons_succ]
  refine wpAnyH_takeS (i := 2) (v := .pointer (some ⟨V, 0, none⟩)) rfl (by kernel_rfl) (by kernel_rfl) (by kernel_rfl) (fun _ _ _ h => h) (by rfl) (fun W hC => by go_simp) hHeld ?_
  simp only [Act.put, List.setIfInBounds_toArray, List.set_cons_zero, List.set_cons_succ]
  refine wpAnyH_takeS (i := 3) (v := .pointer (some ⟨fb, 0, none⟩)) rfl (by kernel_rfl) (by kernel_rfl) (by kernel_rfl) (fun _ _ _ h => h) (by rfl) (fun W hC => by (obtain ⟨y0, y1, y2⟩ := hC); go_simp) hHeld ?_
  simp only [Act.put, List.setIfInBounds_toArray, List.set_cons_zero, List.set_cons_succ]
  refine wpAnyH_takeS (i := 4) (v := .pointer (some ⟨b, 0, none⟩)) rfl (by kernel_rfl) (by kernel_rfl) (by kernel_rfl) (fun _ _ _ h => h) (by rfl) (fun W hC => by go_simp) hHeld ?_
  simp only [Act.put, List.setIfInBounds_toArray, List.set_cons_zero, List.set_cons_succ]
  refine wpAnyH_takeS (i := 5) (v := .pointer (some ⟨b, 0, none⟩)) rfl (by kernel_rfl) (by kernel_rfl) (by kernel_rfl) (fun _ _ _ h => h) (by rfl) (fun W hC => by go_simp) hHeld ?_
  simp only [Act.put, List.setIfInBounds_toArray, List.set_cons_zero, List.set_cons_succ]
  refine wpAnyH_takeS (i := 6) (v := .pointer (some ⟨b, 3, none⟩)) rfl (by kernel_rfl) (by kernel_rfl) (by kernel_rfl) (fun _ _ _ h => h) (by rfl) (fun W hC => by go_simp) hHeld ?_
  simp only [Act.put, List.setIfInBounds_toArray, List.set_cons_zero, List.set_cons_succ]
  refine wpAnyH_takeS (i := 7) (v := .int .i64 (n : Int)) rfl (by kernel_rfl) (by kernel_rfl) (by kernel_rfl) (fun _ _ _ h => h) (by rfl) (fun W hC => by (obtain ⟨y0, y1, y2⟩ := hC); go_simp) hHeld ?_
  simp only [Act.put, List.setIfInBounds_toArray, List.set_cons_zero, List.set_cons_succ]
  refine wpAnyH_ready (rs := [8]) (by kernel_rfl) (by simp) ?_
  refine AllReadyH.consS rfl (fun K hK => ?_) AllReadyH.nil
  go_simp
  refine (of_any p fb (n : Int) w1.drew h3 h4 hHeld.2.2 (by omega) (by omega)).mono ?_
  rintro e w2 ⟨rfl, rfl⟩
  refine hK.out _ _ hHeld (fun hHeld => ?_)
  clear hK K
  refine wpAnyH_ready (rs := [9]) (by kernel_rfl) (by simp) ?_
  refine AllReadyH.consS rfl (fun K hK => ?_) AllReadyH.nil
  go_simp
  refine hK.out _ _ hHeld (fun hHeld => ?_)
  clear hK K
  refine wpAnyH_done (by kernel_rfl) ?_ _
  go_wp2_with fail
  go_ret
  exact ⟨HF1.out.drew, rfl, HE1.out⟩

end Go.Proofs.YtlgcmeachjjmgajGreatDoor

namespace Go.Proofs.YtlgcmeachjjmgajGreatDoor
open Go.RowKit

set_option maxRecDepth 100000 in
set_option maxHeartbeats 2000000 in
theorem val_minus (p V fb pg fuel : Nat) (fs : List FnT) (w0 : World) (R : Nat) (h3 : 3 ≤ p) (h4 : p ≤ 2147483647) (hp : w0.cell? ⟨fb, 0, none⟩ = some (.int .i64 p)) (hV0 : w0.heap.size ≤ V) (IH : EvC p V fb pg fuel fs w0 R) (b : Nat) (a : Option Addr) (sc : List (List UInt8 × Int)) (k : Nat) (w : World) (hb : Below w0.heap.size w0 w) (hE : EvAt w V fb pg k fuel) (hf : fuel ≤ 1000000) (hk : k < fuel) (at' n : Nat) (nm : List UInt8) (x : Tr) (hP : PT 0 w0 (.node 3 nm at' n [x]) (.pointer (some ⟨b, 0, none⟩))) (hx : TW x) (hS : ScP w (.pointer a) sc) (hSB : ScB p sc) (r : ER Int) (hr : r = (evl p fs fuel R x sc (k + 1)).bind fun u k2 => .val ((0 - u) % (p : Int)) k2) (hro : r ≠ .out) :
    Calls Tryz.prog 59 #[.pointer (some ⟨V, 0, none⟩), .pointer (some ⟨b, 0, none⟩), .pointer a] w (EvP (Value.int .i64) V fb pg fuel w r) := by
  have HL := hid (look_any V fb pg k fuel w hE hf (by omega))
  rw [if_neg (by omega)] at HL
  obtain ⟨b', av, c, e0, _, hbk, hks⟩ := hP
  injection e0 with e0
  injection e0 with e0
  injection e0 with e0
  subst e0
  obtain ⟨gk, v0, rfl, _, d0, hp0⟩ := PTBs.at hks (i := 0) (t := x) rfl
  obtain ⟨t0, rfl⟩ := PT.form hp0
  rw [Nat.zero_add] at d0
  have p0 : w0.cell? ⟨b, 0, none⟩ = some (.int .i64 3) := by simp [World.cell?, hbk]
  have p1 : w0.cell? ⟨b, 1, none⟩ = some (.string (bs nm)) := by simp [World.cell?, hbk]
  have p4 : w0.cell? ⟨b, 4, none⟩ = some (.slice (some ⟨gk, 0, none⟩) 1 c) := by simp [World.cell?, hbk]
  have HW : Hid (∀ w1, Fr V w w1 → w1.cell? ⟨b, 0, none⟩ = some (.int .i64 3) ∧ w1.cell? ⟨b, 1, none⟩ = some (.string (bs nm)) ∧ w1.cell? ⟨b, 4, none⟩ = some (.slice (some ⟨gk, 0, none⟩) 1 c) ∧ w1.cell? ⟨fb, 0, none⟩ = some (.int .i64 p) ∧ w1.cell? ⟨gk, 0, none⟩ = some (.pointer (some ⟨t0, 0, none⟩))) := fun w1 hf => by
    have hb1 := hb.trans (hf.1.mono hV0)
    exact ⟨(hb1.cell (p := ⟨b, 0, none⟩) (World.block_lt_of_cell? _ _ p0)).trans p0, (hb1.cell (p := ⟨b, 1, none⟩) (World.block_lt_of_cell? _ _ p1)).trans p1, (hb1.cell (p := ⟨b, 4, none⟩) (World.block_lt_of_cell? _ _ p4)).trans p4, (hb1.cell (p := ⟨fb, 0, none⟩) (World.block_lt_of_cell? _ _ hp)).trans hp, (hb1.cell (p := ⟨gk, 0, none⟩) (World.block_lt_of_cell? _ _ d0)).trans d0⟩
  have HI0 := hid (fun (k' : Nat) (w1 : World) (a' : Option Addr) (sc' : List (List UInt8 × Int)) (hf1 : Fr V w w1) (hE1 : EvAt w1 V fb pg k' fuel) (hk' : k' ≤ fuel) (hs : ScP w1 (.pointer a') sc') (hsb : ScB p sc') (hne : evl p fs fuel R x sc' k' ≠ .out) => IH x _ a' sc' k' w1 (hb.trans (hf1.1.mono hV0)) hE1 hk' hp0 hx hs hsb hne)
  have HSC := hid (fun (w1 : World) (hf1 : Fr V w w1) => hS.fr hE hf1)
  have HSB := hid hSB
  have HR := hid hr
  have HRO := hid hro
  have HK := hid hk
  have HNE : Hid (b ≠ V ∧ gk ≠ V) := ⟨by have h : b < w0.heap.size := World.block_lt_of_cell? _ _ p4; omega, by have h : gk < w0.heap.size := World.block_lt_of_cell? _ _ d0; omega⟩
  clear hb hE hf hk hbk hks IH hS hSB hr hro p0 p1 p4 hp d0 hp0
  go_enter Tryz.func59, Tryz.ntmps59
  go_wp2_with fail
  refine HL.out.mono ?_
  rintro e w1 ⟨hf1, rfl, hE1⟩
  obtain ⟨q0, q1, q4, qf, s0⟩ := HW.out w1 hf1
  have v0 : w1.cell? ⟨V, 0, none⟩ = some (.pointer (some ⟨fb, 0, none⟩)) := by simp [World.cell?, show w1.heap[V]? = _ from hE1]
  have hne : evl p fs fuel R x sc (k + 1) ≠ .out := ER.bind_ne (by rw [← HR.out]; exact HRO.out)
  have HC := hid (HI0.out (k + 1) w1.drew a sc hf1.drew hE1 (by have := HK.out; omega) (HSC.out _ hf1.drew) HSB.out hne)
  have HF1 := hid hf1
  clear hf1 hE1 HL hne
  go_wp2_with fail
  refine wp_region_held_drew (S := (fun W => W.cell? ⟨V, 0, none⟩ = some (.pointer (some ⟨fb, 0, none⟩)) ∧ W.cell? ⟨b, 4, none⟩ = some (.slice (some ⟨gk, 0, none⟩) 1 c) ∧ W.cell? ⟨gk, 0, none⟩ = some (.pointer (some ⟨t0, 0, none⟩)))) (by kernel_rfl) ⟨v0, q4, s0⟩ (fun hHeld => ?_)
  refine wpAnyH_takeS (i := 0) (v := .pointer (some ⟨V, 0, none⟩)) rfl (by kernel_rfl) (by kernel_rfl) (by kernel_rfl) (fun _ _ _ h => h) (by rfl) (fun W hC => by go_simp) hHeld ?_
  simp only [Act.put, List.setIfInBounds_toArray, List.set_cons_zero, List.set_cons_succ]
  refine wpAnyH_takeS (i := 1) (v := .pointer (some ⟨V, 0, none⟩)) rfl (by kernel_rfl) (by kernel_rfl) (by kernel_rfl) (fun _ _ _ h => h) (by rfl) (fun W hC => by go_simp) hHeld ?_
  simp only [Act.put, List.setIfInBounds_toArray, List.set_cons_zero, List.set_cons_succ]
  refine wpAnyH_takeS (i := 2) (v := .pointer (some ⟨V, 0, none⟩)) rfl (by kernel_rfl) (by kernel_rfl) (by kernel_rfl) (fun _ _ _ h => h) (by rfl) (fun W hC => by go_simp) hHeld ?_
  simp only [Act.put, List.setIfInBounds_toArray, List.set_cons_zero, List.set_cons_succ]
  refine wpAnyH_takeS (i := 3) (v := .pointer (some ⟨fb, 0, none⟩)) rfl (by kernel_rfl) (by kernel_rfl) (by kernel_rfl) (fun _ _ _ h => h) (by rfl) (fun W hC => by (obtain ⟨y0, y1, y2⟩ := hC); go_simp) hHeld ?_
  simp only [Act.put, List.setIfInBounds_toArray, List.set_cons_zero, List.set_cons_succ]
  refine wpAnyH_takeS (i := 4) (v := .pointer (some ⟨V, 0, none⟩)) rfl (by kernel_rfl) (by kernel_rfl) (by kernel_rfl) (fun _ _ _ h => h) (by rfl) (fun W hC => by go_simp) hHeld ?_
  simp only [Act.put, List.setIfInBounds_toArray, List.set_cons_zero, List.set_cons_succ]
  refine wpAnyH_takeS (i := 5) (v := .pointer (some ⟨b, 0, none⟩)) rfl (by kernel_rfl) (by kernel_rfl) (by kernel_rfl) (fun _ _ _ h => h) (by rfl) (fun W hC => by go_simp) hHeld ?_
  simp only [Act.put, List.setIfInBounds_toArray, List.set_cons_zero, List.set_cons_succ]
  refine wpAnyH_takeS (i := 6) (v := .pointer (some ⟨b, 0, none⟩)) rfl (by kernel_rfl) (by kernel_rfl) (by kernel_rfl) (fun _ _ _ h => h) (by rfl) (fun W hC => by go_simp) hHeld ?_
  simp only [Act.put, List.setIfInBounds_toArray, List.set_cons_zero, List.set_cons_succ]
  refine wpAnyH_takeS (i := 7) (v := .pointer (some ⟨b, 4, none⟩)) rfl (by kernel_rfl) (by kernel_rfl) (by kernel_rfl) (fun _ _ _ h => h) (by rfl) (fun W hC => by go_simp) hHeld ?_
  simp only [Act.put, List.setIfInBounds_toArray, List.set_cons_zero, List.set_cons_succ]
  refine wpAnyH_takeS (i := 8) (v := .slice (some ⟨gk, 0, none⟩) 1 c) rfl (by kernel_rfl) (by kernel_rfl) (by kernel_rfl) (fun _ _ _ h => h) (by rfl) (fun W hC => by (obtain ⟨y0, y1, y2⟩ := hC); go_simp) hHeld ?_
  simp only [Act.put, List.setIfInBounds_toArray, List.set_cons_zero, List.set_cons_succ]
  refine wpAnyH_takeS (i := 9) (v := .pointer (some ⟨gk, 0, none⟩)) rfl (by kernel_rfl) (by kernel_rfl) (by kernel_rfl) (fun _ _ _ h => h) (by rfl) (fun W hC => by go_simp) hHeld ?_
  simp only [Act.put, List.setIfInBounds_toArray, List.set_cons_zero, List.set_cons_succ]
  refine wpAnyH_takeS (i := 10) (v := .pointer (some ⟨t0, 0, none⟩)) rfl (by kernel_rfl) (by kernel_rfl) (by kernel_rfl) (fun _ _ _ h => h) (by rfl) (fun W hC => by (obtain ⟨y0, y1, y2⟩ := hC); go_simp) hHeld ?_
  simp only [Act.put, List.setIfInBounds_toArray, List.set_cons_zero, List.set_cons_succ]
  refine wpAnyH_takeS (i := 11) (v := .pointer a) rfl (by kernel_rfl) (by kernel_rfl) (by kernel_rfl) (fun _ _ _ h => h) (by rfl) (fun W hC => by go_simp) hHeld ?_
  simp only [Act.put, List.setIfInBounds_toArray, List.set_cons_zero, List.set_cons_succ]
  refine wpAnyH_ready (rs := [12]) (by kernel_rfl) (by simp) ?_
  refine AllReadyH.consS rfl (fun K hK => ?_) AllReadyH.nil
  go_simp
  refine HC.out.mono ?_
  intro e w2 he
  obtain ⟨hf2, he⟩ := he
  have HF2 := hid (HF1.out.drew.trans hf2)
  cases hv : evl p fs fuel R x sc (k + 1) with
  | out => rw [hv] at he; exact he.elim
  | stop er =>
    rw [hv] at he
    have he' : e = pncE er := he
    subst he'
    have hr1 := HR.out
    rw [hv] at hr1
    have hr2 : r = .stop er := hr1
    subst hr2
    exact ⟨rfl, HF2.out, rfl⟩
  | val u k2 =>
    rw [hv] at he
    obtain ⟨rfl, hE2⟩ := he
    have hr1 := HR.out
    rw [hv] at hr1
    have hr2 : r = .val ((0 - u) % (p : Int)) k2 := hr1
    subst hr2
    have hbd := evl_bd p fs fuel h3 R x sc (k + 1) u k2 HSB.out (by have := HK.out; omega) hv
    have hw2 := HW.out w2 HF2.out
    have v2 : w2.cell? ⟨V, 0, none⟩ = some (.pointer (some ⟨fb, 0, none⟩)) := by simp [World.cell?, show w2.heap[V]? = _ from hE2]
    refine hK.out _ _ ⟨v2, hw2.2.2.1, hw2.2.2.2.2⟩ (fun hHeld => ?_)
    clear hK K
    refine wpAnyH_ready (rs := [13]) (by kernel_rfl) (by simp) ?_
    refine AllReadyH.consS rfl (fun K hK => ?_) AllReadyH.nil
    go_simp
    refine (neg_any p fb u w2 h3 h4 hw2.2.2.2.1 (by omega) (by omega)).mono ?_
    rintro e w3 ⟨rfl, rfl⟩
    refine hK.out _ _ hHeld (fun hHeld => ?_)
    clear hK K
    refine wpAnyH_ready (rs := [14]) (by kernel_rfl) (by simp) ?_
    refine AllReadyH.consS rfl (fun K hK => ?_) AllReadyH.nil
    go_simp
    refine hK.out _ _ hHeld (fun hHeld => ?_)
    clear hK K
    refine wpAnyH_done (by kernel_rfl) ?_ _
    have HE2 := hid hE2
    clear hE2 hf2 hr1 hbd hw2 v2 hv
    go_wp2_with fail
    go_ret
    exact ⟨HF2.out, by rw [Int.zero_sub]; rfl, HE2.out⟩

end Go.Proofs.YtlgcmeachjjmgajGreatDoor

namespace Go.Proofs.YtlgcmeachjjmgajGreatDoor
open Go.RowKit

set_option maxRecDepth 100000 in
set_option maxHeartbeats 2000000 in
theorem val_if (p V fb pg fuel : Nat) (fs : List FnT) (w0 : World) (R : Nat) (h3 : 3 ≤ p) (hp : w0.cell? ⟨fb, 0, none⟩ = some (.int .i64 p)) (hV0 : w0.heap.size ≤ V) (IH : EvC p V fb pg fuel fs w0 R) (b : Nat) (a : Option Addr) (sc : List (List UInt8 × Int)) (k : Nat) (w : World) (hb : Below w0.heap.size w0 w) (hE : EvAt w V fb pg k fuel) (hf : fuel ≤ 1000000) (hk : k < fuel) (at' n : Nat) (nm : List UInt8) (x y z : Tr) (hP : PT 0 w0 (.node 11 nm at' n [x, y, z]) (.pointer (some ⟨b, 0, none⟩))) (hx : TW x) (hy : TW y) (hz : TW z) (hS : ScP w (.pointer a) sc) (hSB : ScB p sc) (r : ER Int) (hr : r = (evl p fs fuel R x sc (k + 1)).bind fun u k2 => if u = 0 then evl p fs fuel R z sc k2 else evl p fs fuel R y sc k2) (hro : r ≠ .out) :
    Calls Tryz.prog 59 #[.pointer (some ⟨V, 0, none⟩), .pointer (some ⟨b, 0, none⟩), .pointer a] w (EvP (Value.int .i64) V fb pg fuel w r) := by
  have HL := hid (look_any V fb pg k fuel w hE hf (by omega))
  rw [if_neg (by omega)] at HL
  have HPP := hid hP
  obtain ⟨b', av, c, e0, _, hbk, hks⟩ := hP
  injection e0 with e0
  injection e0 with e0
  injection e0 with e0
  subst e0
  obtain ⟨gk, v0, rfl, _, d0, hp0⟩ := PTBs.at hks (i := 0) (t := x) rfl
  obtain ⟨t0, rfl⟩ := PT.form hp0
  obtain ⟨g1, v1, eg, _, d1, hp1⟩ := PTBs.at hks (i := 1) (t := y) rfl
  injection eg with eg
  injection eg with eg
  subst eg
  obtain ⟨t1, rfl⟩ := PT.form hp1
  obtain ⟨g2, v2, eg, _, d2, hp2⟩ := PTBs.at hks (i := 2) (t := z) rfl
  injection eg with eg
  injection eg with eg
  subst eg
  obtain ⟨t2, rfl⟩ := PT.form hp2
  rw [Nat.zero_add] at d0 d1 d2
  have p0 : w0.cell? ⟨b, 0, none⟩ = some (.int .i64 11) := by simp [World.cell?, hbk]
  have p1 : w0.cell? ⟨b, 1, none⟩ = some (.string (bs nm)) := by simp [World.cell?, hbk]
  have p4 : w0.cell? ⟨b, 4, none⟩ = some (.slice (some ⟨gk, 0, none⟩) 3 c) := by simp [World.cell?, hbk]
  have HW : Hid (∀ w1, Fr V w w1 → w1.cell? ⟨b, 0, none⟩ = some (.int .i64 11) ∧ w1.cell? ⟨b, 1, none⟩ = some (.string (bs nm)) ∧ w1.cell? ⟨b, 4, none⟩ = some (.slice (some ⟨gk, 0, none⟩) 3 c) ∧ w1.cell? ⟨fb, 0, none⟩ = some (.int .i64 p) ∧ w1.cell? ⟨gk, 0, none⟩ = some (.pointer (some ⟨t0, 0, none⟩)) ∧ w1.cell? ⟨gk, 1, none⟩ = some (.pointer (some ⟨t1, 0, none⟩)) ∧ w1.cell? ⟨gk, 2, none⟩ = some (.pointer (some ⟨t2, 0, none⟩))) := fun w1 hf => by
    have hb1 := hb.trans (hf.1.mono hV0)
    exact ⟨(hb1.cell (p := ⟨b, 0, none⟩) (World.block_lt_of_cell? _ _ p0)).trans p0, (hb1.cell (p := ⟨b, 1, none⟩) (World.block_lt_of_cell? _ _ p1)).trans p1, (hb1.cell (p := ⟨b, 4, none⟩) (World.block_lt_of_cell? _ _ p4)).trans p4, (hb1.cell (p := ⟨fb, 0, none⟩) (World.block_lt_of_cell? _ _ hp)).trans hp, (hb1.cell (p := ⟨gk, 0, none⟩) (World.block_lt_of_cell? _ _ d0)).trans d0, (hb1.cell (p := ⟨gk, 1, none⟩) (World.block_lt_of_cell? _ _ d1)).trans d1, (hb1.cell (p := ⟨gk, 2, none⟩) (World.block_lt_of_cell? _ _ d2)).trans d2⟩
  have HI0 := hid (fun (k' : Nat) (w1 : World) (a' : Option Addr) (sc' : List (List UInt8 × Int)) (hf1 : Fr V w w1) (hE1 : EvAt w1 V fb pg k' fuel) (hk' : k' ≤ fuel) (hs : ScP w1 (.pointer a') sc') (hsb : ScB p sc') (hne : evl p fs fuel R x sc' k' ≠ .out) => IH x _ a' sc' k' w1 (hb.trans (hf1.1.mono hV0)) hE1 hk' hp0 hx hs hsb hne)
  have HI1 := hid (fun (k' : Nat) (w1 : World) (a' : Option Addr) (sc' : List (List UInt8 × Int)) (hf1 : Fr V w w1) (hE1 : EvAt w1 V fb pg k' fuel) (hk' : k' ≤ fuel) (hs : ScP w1 (.pointer a') sc') (hsb : ScB p sc') (hne : evl p fs fuel R y sc' k' ≠ .out) => IH y _ a' sc' k' w1 (hb.trans (hf1.1.mono hV0)) hE1 hk' hp1 hy hs hsb hne)
  have HI2 := hid (fun (k' : Nat) (w1 : World) (a' : Option Addr) (sc' : List (List UInt8 × Int)) (hf1 : Fr V w w1) (hE1 : EvAt w1 V fb pg k' fuel) (hk' : k' ≤ fuel) (hs : ScP w1 (.pointer a') sc') (hsb : ScB p sc') (hne : evl p fs fuel R z sc' k' ≠ .out) => IH z _ a' sc' k' w1 (hb.trans (hf1.1.mono hV0)) hE1 hk' hp2 hz hs hsb hne)
  have HSC := hid (fun (w1 : World) (hf1 : Fr V w w1) => hS.fr hE hf1)
  have HSB := hid hSB
  have HR := hid hr
  have HRO := hid hro
  have HK := hid hk
  have HB := hid hb
  have HIH := hid IH
  clear hb hE hf hk hbk hks IH hS hSB hr hro p0 p1 p4 hp d0 hp0 d1 hp1 d2 hp2
  go_enter Tryz.func59, Tryz.ntmps59
  go_wp2_with fail
  refine HL.out.mono ?_
  rintro e w1 ⟨hf1, rfl, hE1⟩
  obtain ⟨q0, q1, q4, qf, s0, s1, s2⟩ := HW.out w1 hf1
  have hne : evl p fs fuel R x sc (k + 1) ≠ .out := ER.bind_ne (by rw [← HR.out]; exact HRO.out)
  have HC := hid (HI0.out (k + 1) w1 a sc hf1 hE1 (by have := HK.out; omega) (HSC.out _ hf1) HSB.out hne)
  have HF1 := hid hf1
  clear hf1 hE1 HL hne
  go_wp2_with fail
  refine HC.out.mono ?_
  intro e w2 he
  obtain ⟨hf2, he⟩ := he
  have HF2 := hid (HF1.out.trans hf2)
  cases hv : evl p fs fuel R x sc (k + 1) with
  | out => rw [hv] at he; exact he.elim
  | stop er =>
    rw [hv] at he
    have he' : e = pncE er := he
    subst he'
    have hr1 := HR.out
    rw [hv] at hr1
    have hr2 : r = .stop er := hr1
    subst hr2
    exact ⟨rfl, HF2.out, rfl⟩
  | val u k2 =>
    rw [hv] at he
    obtain ⟨rfl, hE2⟩ := he
    have hr1 := HR.out
    rw [hv] at hr1
    have hr2 : r = if u = 0 then evl p fs fuel R z sc k2 else evl p fs fuel R y sc k2 := hr1
    have hbd := evl_bd p fs fuel h3 R x sc (k + 1) u k2 HSB.out (by have := HK.out; omega) hv
    obtain ⟨e0, e1, e4, ef, r0, r1, r2⟩ := HW.out w2 HF2.out
    clear hr1 hv q0 q1 q4 qf s0 s1 s2 HC
    by_cases hu : u = 0
    · rw [if_pos hu] at hr2
      have HX := hid hr2
      have HC := hid (HI2.out k2 w2 a sc HF2.out hE2 hbd.2.2 (HSC.out _ HF2.out) HSB.out (by rw [← hr2]; exact HRO.out))
      have qu : (u == 0) = true := by simp [hu]
      clear hr2 hbd hE2 hf2 hu HR
      go_wp2_with fail
      refine HC.out.mono ?_
      intro e w9 he
      obtain ⟨hf9, he⟩ := he
      have HF9 := hid (HF2.out.trans hf9)
      rw [← HX.out] at he
      clear hf9 HC HX
      cases r with
      | out => exact he.elim
      | stop er =>
        have he' : e = pncE er := he
        subst he'
        exact ⟨rfl, HF9.out, rfl⟩
      | val v9 k9 =>
        obtain ⟨rfl, hE9⟩ := he
        have HE9 := hid hE9
        clear hE9
        go_wp2_with fail
        go_ret
        exact ⟨HF9.out, rfl, HE9.out⟩
    · rw [if_neg hu] at hr2
      have HX := hid hr2
      have HC := hid (HI1.out k2 w2 a sc HF2.out hE2 hbd.2.2 (HSC.out _ HF2.out) HSB.out (by rw [← hr2]; exact HRO.out))
      have qu : (u == 0) = false := by simp [hu]
      clear hr2 hbd hE2 hf2 hu HR
      go_wp2_with fail
      refine HC.out.mono ?_
      intro e w9 he
      obtain ⟨hf9, he⟩ := he
      have HF9 := hid (HF2.out.trans hf9)
      rw [← HX.out] at he
      clear hf9 HC HX
      cases r with
      | out => exact he.elim
      | stop er =>
        have he' : e = pncE er := he
        subst he'
        exact ⟨rfl, HF9.out, rfl⟩
      | val v9 k9 =>
        obtain ⟨rfl, hE9⟩ := he
        have HE9 := hid hE9
        clear hE9
        go_wp2_with fail
        go_ret
        exact ⟨HF9.out, rfl, HE9.out⟩

end Go.Proofs.YtlgcmeachjjmgajGreatDoor
