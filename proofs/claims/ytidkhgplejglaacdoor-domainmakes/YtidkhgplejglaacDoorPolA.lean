/- What package poly's Degree, Trim, Add, Sub and their helpers answer, for every list: new lists without zeros at their end; nothing that was there has turned. -/
import Derived.Test.YtidkhgplejglaacDoorPol
import Derived.Test.YtidkhgplejglaacDoorMem
import Derived.Test.YtidkhgplejglaacDoorRef
import Derived.Deep.OwnRows
namespace Go.Proofs.YtidkhgplejglaacDoor
open Go.RowKit

theorem Tryd.infoInt : (Tryd.prog.info? 3).map (fun i => (i.zero, i.size, i.bytes)) = some (some (.int .i64 0), 1, 8) := by kernel_rfl

/-- n numbers that can be read, in a block of which P holds -/
def RowF (P : Nat → Prop) (w : World) (a : Option Addr) (n : Nat) (f : Nat → Int) : Prop :=
  ∀ k, k < n → ∃ b o, a = some ⟨b, o, none⟩ ∧ P b ∧ w.cell? ⟨b, o + k, none⟩ = some (.int .i64 (f k))
def FitsF (n : Nat) (f : Nat → Int) : Prop := ∀ j, j < n → -9223372036854775808 ≤ f j ∧ f j ≤ 9223372036854775807
theorem RowP.f {P : Nat → Prop} {w : World} {a : Option Addr} {zs : List Int} (h : RowP P w a zs) : RowF P w a zs.length (zat zs) := h
theorem RowB.f {n0 : Nat} {w : World} {a : Option Addr} {zs : List Int} (h : RowB n0 w a zs) : RowF (· < n0) w a zs.length (zat zs) := h
theorem Cells.f {g n : Nat} {f : Nat → Int} {w : World} (h : Cells g 0 n f w) : RowF (· = g) w (some ⟨g, 0, none⟩) n f := fun k hk => ⟨g, 0, rfl, rfl, h.cells k hk⟩

/-- how many are left without the zeros at the end -/
def tpn (p : Nat) (f : Nat → Int) (n : Nat) : Nat := Pol.tp p f n
theorem tpn_le (p : Nat) (f : Nat → Int) (n : Nat) : tpn p f n ≤ n := Pol.tp_le p f n

set_option maxHeartbeats 400000 in
theorem deg_any (p b n cap : Nat) (P : Nat → Prop) (a : Option Addr) (f : Nat → Int) (w : World) (h3 : 3 ≤ p) (hm : p ≤ 2147483647) (hp : w.cell? ⟨b, 0, none⟩ = some (.int .i64 p))
    (hn : n ≤ 9223372036854775807) (hfit : FitsF n f) (hrow : RowF P w a n f) :
    Calls Tryd.prog 50 #[.pointer (some ⟨b, 0, none⟩), .slice a n cap] w fun e w' => e = .returned (.int .i64 ((tpn p f n : Int) - 1)) ∧ w' = w := by
  have HF := hid hfit
  have HR := hid hrow
  clear hfit hrow
  go_enter Tryd.func50, Tryd.ntmps50
  go_wp2_with fail
  go_loop [5] (fun iv => ∃ k : Nat, k ≤ n ∧ iv = .int .i64 ((k : Int) - 1) ∧ Hid (tpn p f n = tpn p f k)) (fun iv => (intOf iv + 1).toNat)
  case atStart => exact ⟨n, Nat.le_refl _, rfl, rfl⟩
  case round =>
    obtain ⟨k, hk, rfl, hT⟩ := hrel
    cases k with
    | zero =>
      have e0 : Hid ((tpn p f n : Int) - 1 = ((0 : Nat) : Int) - 1) := by unfold Hid; rw [hT.out]; rfl
      go_wp2_with fail
      go_ret
      exact ⟨ret_int (by rw [e0.out]; rfl), rfl⟩
    | succ j =>
      have hj : j < n := by omega
      have e1 : (((j + 1 : Nat) : Int) - 1) = (j : Int) := by omega
      rw [e1]
      have hj0 : (0 : Int) ≤ (j : Int) := by omega
      have hjn : (j : Int) < (n : Int) := by omega
      obtain ⟨bl, ol, rfl, _, hcl⟩ := HR.out j hj
      obtain ⟨hx1, hx2⟩ := HF.out j hj
      have HS : Hid (f j % (p : Int) = 0 → tpn p f (j + 1) = tpn p f j) := fun h => by unfold tpn; rw [Pol.tp, if_pos h]
      have HE : Hid (f j % (p : Int) ≠ 0 → tpn p f (j + 1) = j + 1) := fun h => by unfold tpn; rw [Pol.tp, if_neg h]
      generalize f j = x at *
      clear e1
      go_wp2_with fail
      refine (of_any p b x w h3 hm hp hx1 hx2).mono ?_
      rintro e w1 ⟨rfl, rfl⟩
      by_cases hz : x % (p : Int) = 0
      · have hzb : (x % (p : Int) == 0) = true := by rw [hz]; rfl
        have HS2 := hid (hT.out.trans (HS.out hz))
        clear hz HS HE
        go_wp2_with fail
        go_round
        case rel => exact ⟨j, by omega, rfl, HS2⟩
        case measure => simp [intOf]
      · have hzb : (x % (p : Int) == 0) = false := by rw [beq_eq_false_iff_ne]; exact hz
        have HS2 := hid (hT.out.trans (HE.out hz))
        clear hz HS HE
        go_wp2_with fail
        go_ret
        exact ⟨ret_int (by rw [HS2.out]; omega), rfl⟩

set_option maxHeartbeats 1000000 in
theorem trim_full (p b cap : Nat) (P : Nat → Prop) (a : Option Addr) (zs : List Int) (w : World) (h3 : 3 ≤ p) (hm : p ≤ 2147483647) (hp : w.cell? ⟨b, 0, none⟩ = some (.int .i64 p))
    (hn : zs.length ≤ 35184372088832) (hfit : Fits zs) (hrow : RowP P w a zs) (hP : ∀ k, P k → k < w.heap.size) :
    Calls Tryd.prog 36 #[.pointer (some ⟨b, 0, none⟩), .slice a zs.length cap] w fun e w' => e = .returned (.slice (some ⟨w.heap.size, 0, none⟩) (Pol.trim p zs).length (Pol.trim p zs).length) ∧
      Cells w.heap.size 0 (Pol.trim p zs).length (zat (Pol.trim p zs)) w' ∧ Below w.heap.size w w' ∧ w'.heap.size = w.heap.size + 1 ∧ w'.rowIs w.heap.size 3 (Pol.trim p zs).length (fun j => .int .i64 (zat (Pol.trim p zs) j)) := by
  have hb : b < w.heap.size := by
    rcases Nat.lt_or_ge b w.heap.size with g | g
    · exact g
    · simp [World.cell?, Array.getElem?_eq_none g] at hp
  have hd := hid (deg_any p b zs.length cap P a (zat zs) w h3 hm hp (by omega) hfit hrow)
  have HT : Hid (∀ j, j < (Pol.trim p zs).length → zat (Pol.trim p zs) j = zat zs j % (p : Int)) := fun j hj => by
    rw [Pol.trim, Pol.mk_length] at hj
    exact Pol.mk_at p (Pol.cf zs) zs.length j hj
  have hlen : (Pol.trim p zs).length = tpn p (zat zs) zs.length := Pol.mk_length _ _ _
  have hle := tpn_le p (zat zs) zs.length
  rw [← hlen] at hd hle
  have HF := hid hfit
  have HR := hid hrow
  have HPP := hid hP
  clear hfit hrow hlen hP
  have hmk := fun n h1 h2 w => run_make_row' (P := Tryd.prog) 27 3 (.int .i64 0) 8 Tryd.underlying27 Tryd.infoInt rfl .i64 .i64 n h1 h2 w
  have hmk2 := hmk (Pol.trim p zs).length (by omega) (by omega)
  clear hmk
  generalize (Pol.trim p zs).length = t at *
  generalize Pol.trim p zs = ts at *
  have e1 : (t : Int) - 1 + 1 = (t : Int) := by omega
  go_enter Tryd.func36, Tryd.ntmps36
  go_wp2_with fail
  refine hd.out.mono ?_
  rintro e w1 ⟨rfl, rfl⟩
  go_wp2_with fail
  go_loopw [14] (fun iv wr => ∃ (k : Nat) (o : Nat → Int), k ≤ t ∧ iv = .int .i64 k ∧ Hid (Cells w1.heap.size 0 t o wr) ∧ Hid (∀ j, j < k → o j = zat ts j) ∧ Hid (Below w1.heap.size w1 wr) ∧ wr.heap.size = w1.heap.size + 1 ∧ Hid (wr.rowIs w1.heap.size 3 t (fun j => .int .i64 (o j))))
    (fun iv _ => t - (intOf iv).toNat)
  case atStart =>
    refine ⟨0, fun _ => 0, Nat.zero_le _, rfl, ⟨fun j hj => ?_, fun j hj => ?_⟩, fun j hj => by omega, ?_, by simp, World.rowIs_made _ _ _ _⟩
    · rw [World.cell?_alloc_at _ _ _ _ (by simp)]
      simp [madeCells, hj, Nat.mod_one]
    · simp
    · exact (Below.refl _ _).alloc (Nat.le_refl _) _
  case round =>
    obtain ⟨k, o, hk, rfl, hout, hoj, hbel, hsz, hri⟩ := hrel
    by_cases hlt : k < t
    · have hlt2 : (k : Int) < (t : Int) := by omega
      have hlt3 : (k : Int) < (zs.length : Int) := by omega
      obtain ⟨bl, ol, rfl, hbl, hcl⟩ := HR.out k (by omega)
      have hbl2 := HPP.out _ hbl
      have hcl2 := (hbel.out.cell (p := ⟨bl, ol + k, none⟩) hbl2).trans hcl
      have hok := hout.out.cells k hlt
      have hos := hout.out.soft k hlt
      rw [Nat.zero_add] at hok hos
      have hpc := (hbel.out.cell (p := ⟨b, 0, none⟩) hb).trans hp
      obtain ⟨hx1, hx2⟩ := HF.out k (by omega)
      have HS := hid (HT.out k hlt)
      have HC := hid (hout.out.set (zat zs k % (p : Int)) hlt)
      have HB := hid (hbel.out.setCell (p := ⟨w1.heap.size, 0 + k, none⟩) (by simp) (.int .i64 (zat zs k % (p : Int))))
      have HJ : Hid (∀ j, j < k + 1 → up o k (zat zs k % (p : Int)) j = zat ts j) := fun j hj => by
        unfold up
        by_cases hjk : j = k
        · rw [if_pos hjk, hjk]; exact HS.out.symm
        · rw [if_neg hjk]; exact hoj.out j (by omega)
      have HRI : Hid ((wr.setCell ⟨w1.heap.size, k, none⟩ (.int .i64 (zat zs k % (p : Int)))).rowIs w1.heap.size 3 t (fun j => .int .i64 (up o k (zat zs k % (p : Int)) j))) :=
        (hri.out.set k (.int .i64 (zat zs k % (p : Int)))).congr (fun j _ => by show (if j = k then _ else _) = Value.int .i64 (up o k _ j); unfold up; split <;> rfl)
      rw [Nat.zero_add] at HC HB
      generalize zat zs k = x at *
      clear hcl HS
      go_wp2_with fail
      refine (of_any p b x _ h3 hm hpc hx1 hx2).mono ?_
      rintro e w2 ⟨rfl, rfl⟩
      go_wp2_with fail
      go_roundw
      case rel => exact ⟨k + 1, _, by omega, by go_num, HC, HJ, HB, by simp [World.setCell]; exact hsz, HRI⟩
      case measure => simp [intOf]; omega
    · have hlt2 : ¬ (k : Int) < (t : Int) := by omega
      go_wp2_with fail
      go_ret
      exact ⟨rfl, hout.out.congr (fun j hj => hoj.out j (by omega)), hbel.out, hsz, hri.out.congr (fun j hj => by rw [hoj.out j (by omega)])⟩

theorem trim_any (p b cap : Nat) (P : Nat → Prop) (a : Option Addr) (zs : List Int) (w : World) (h3 : 3 ≤ p) (hm : p ≤ 2147483647) (hp : w.cell? ⟨b, 0, none⟩ = some (.int .i64 p))
    (hn : zs.length ≤ 35184372088832) (hfit : Fits zs) (hrow : RowP P w a zs) (hP : ∀ k, P k → k < w.heap.size) :
    Calls Tryd.prog 36 #[.pointer (some ⟨b, 0, none⟩), .slice a zs.length cap] w fun e w' => e = .returned (.slice (some ⟨w.heap.size, 0, none⟩) (Pol.trim p zs).length (Pol.trim p zs).length) ∧
      Cells w.heap.size 0 (Pol.trim p zs).length (zat (Pol.trim p zs)) w' ∧ Below w.heap.size w w' ∧ w'.heap.size = w.heap.size + 1 :=
  (trim_full p b cap P a zs w h3 hm hp hn hfit hrow hP).mono fun _ _ h => ⟨h.1, h.2.1, h.2.2.1, h.2.2.2.1⟩

end Go.Proofs.YtidkhgplejglaacDoor
