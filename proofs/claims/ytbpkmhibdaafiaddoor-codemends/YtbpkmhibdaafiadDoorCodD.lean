/- Package code: lostPlaces, lostPoints, wrongPlaces, power. -/
import Derived.Test.YtbpkmhibdaafiadDoorCodA
import Derived.Deep.QuietTactic
namespace Go.Proofs.YtbpkmhibdaafiadDoor
open Go.RowKit

theorem Tryd.infoBool : (Tryd.prog.info? 4).map (fun i => (i.zero, i.size, i.bytes)) = some (some (.bool false), 1, 1) := by kernel_rfl

/-- does a place stand among the first k of a list? -/
def gk (zs : List Int) : Nat → Nat → Bool
  | 0, _ => false
  | k + 1, j => gk zs k j || (zat zs k == (j : Int))

set_option maxRecDepth 100000 in
set_option maxHeartbeats 1000000 in
theorem lost_any (n cap : Nat) (a : Option Addr) (zs : List Int) (w : World) (hn : n ≤ 65536) (hlen : zs.length ≤ 281474976710656) (hfit : Fits zs) (hrow : RowB w.heap.size w a zs) :
    Calls Tryd.prog 29 #[.int .i64 n, .slice a zs.length cap] w fun e w' => e = .returned (.slice (some ⟨w.heap.size, 0, none⟩) n n) ∧ w'.rowIs w.heap.size 4 n (fun j => .bool (gk zs zs.length j)) ∧ Below w.heap.size w w' ∧ w'.heap.size = w.heap.size + 1 := by
  have HF := hid hfit
  have HR := hid hrow
  clear hfit hrow
  have hmk := fun n h1 h2 w => run_make_row' (P := Tryd.prog) 61 4 (.bool false) 1 Tryd.underlying61 Tryd.infoBool rfl .i64 .i64 n h1 h2 w
  have hmk2 := hmk n (by omega) (by omega)
  clear hmk
  go_enter Tryd.func29, Tryd.ntmps29
  go_wp2_with fail
  go_loopw [12] (fun iv wr => ∃ k : Nat, k ≤ zs.length ∧ iv = .int .i64 k ∧ Hid (wr.rowIs w.heap.size 4 n (fun j => .bool (gk zs k j))) ∧ Hid (Below w.heap.size w wr) ∧ wr.heap.size = w.heap.size + 1)
    (fun iv _ => zs.length - (intOf iv).toNat)
  case atStart => exact ⟨0, Nat.zero_le _, rfl, (World.rowIs_made _ _ _ _).congr (fun j _ => rfl), (Below.refl _ _).alloc (Nat.le_refl _) _, by simp⟩
  case round =>
    obtain ⟨k, hk, rfl, hri, hbel, hsz⟩ := hrel
    by_cases hlt : k < zs.length
    · have hlt2 : (k : Int) < (zs.length : Int) := by omega
      obtain ⟨bl, ol, rfl, hbl, hcl⟩ := HR.out k hlt
      have hcl2 := (hbel.out.cell (p := ⟨bl, ol + k, none⟩) hbl).trans hcl
      obtain ⟨hy1, hy2⟩ := HF.out k hlt
      have HZ : Hid (∀ x : Int, zat zs k = x → ∀ j : Nat, gk zs (k + 1) j = (gk zs k j || (x == (j : Int)))) := fun x hx j => by rw [← hx]; rfl
      obtain ⟨x, hx⟩ : ∃ x, zat zs k = x := ⟨_, rfl⟩
      have HX := hid (HZ.out x hx)
      rw [hx] at hcl2 hy1 hy2
      clear hcl HZ hx
      by_cases hin : 0 ≤ x ∧ x < (n : Int)
      · obtain ⟨i0, i1⟩ := hin
        obtain ⟨i, rfl⟩ := Int.eq_ofNat_of_zero_le i0
        have hin2 : i < n := by omega
        have hok := hri.out.cell hin2
        have hos := hri.out.frozen i
        have HRI : Hid ((wr.setCell ⟨w.heap.size, i, none⟩ (.bool true)).rowIs w.heap.size 4 n (fun j => .bool (gk zs (k + 1) j))) :=
          (hri.out.set i _).congr (fun j _ => by
            show (if j = i then Value.bool true else Value.bool (gk zs k j)) = Value.bool (gk zs (k + 1) j)
            rw [HX.out j]
            by_cases e : j = i
            · subst e; simp
            · rw [if_neg e, show (((i : Nat) : Int) == (j : Int)) = false from by rw [beq_eq_false_iff_ne]; omega, Bool.or_false])
        have HB := hid (hbel.out.setCell (p := ⟨w.heap.size, i, none⟩) (by simp) (.bool true))
        go_wp2_with fail
        go_roundw
        case rel => exact ⟨k + 1, by omega, by go_num, HRI, HB, by simp [World.setCell]; exact hsz⟩
        case measure => simp [intOf]; omega
      · have HRI : Hid (wr.rowIs w.heap.size 4 n (fun j => .bool (gk zs (k + 1) j))) := hri.out.congr (fun j hj => by
          rw [HX.out j, show (x == (j : Int)) = false from by rw [beq_eq_false_iff_ne]; omega, Bool.or_false])
        have hin2 : ¬ 0 ≤ x ∨ (0 ≤ x ∧ ¬ x < (n : Int)) := by omega
        clear hin
        rcases hin2 with g | ⟨g1, g2⟩
        · go_wp2_with fail
          go_roundw
          case rel => exact ⟨k + 1, by omega, by go_num, HRI, hbel, hsz⟩
          case measure => simp [intOf]; omega
        · go_wp2_with fail
          go_roundw
          case rel => exact ⟨k + 1, by omega, by go_num, HRI, hbel, hsz⟩
          case measure => simp [intOf]; omega
    · have hlt2 : ¬ (k : Int) < (zs.length : Int) := by omega
      obtain rfl : k = zs.length := by omega
      go_wp2_with fail
      go_ret
      exact ⟨rfl, hri.out, hbel.out, hsz⟩

theorem rowIs_below {w w' : World} {g n n0 : Nat} {t : TypeId} {f : Nat → Value} (h : w.rowIs g t n f) (e : Below n0 w w') (hg : g < n0) : w'.rowIs g t n f := h.of_block (e.block g hg)

set_option maxRecDepth 100000 in
set_option maxHeartbeats 1000000 in
theorem lpts_any {w : World} {p b d n : Nat} {r s : Int} (D : DO w p b d n r s) (g : Nat) (G : Nat → Bool) (hG : w.rowIs g 4 n (fun j => .bool (G j))) :
    Calls Tryd.prog 30 #[.pointer (some ⟨d, 0, none⟩), .slice (some ⟨g, 0, none⟩) n n] w fun e w' => ∃ a c, e = .returned (.slice a (pk G (Dom.pt p s r) n).length c) ∧ Lst w'.heap.size w' a c (pk G (Dom.pt p s r) n) ∧ Below w.heap.size w w' := by
  obtain ⟨i0, hi, hz0, hz1, hz2⟩ := info_parts Tryd.infoInt
  obtain ⟨hn0, hn⟩ := D.pos
  have HP := hid (points_any p b d n r s w D.h3 D.hm D.hp D.da hn D.hr0 D.hr1 D.hs0 D.hs1)
  have HG := hid hG
  have hgl := hG.lt
  have HPB : Hid (∀ j, Dom.pt p s r j < 9223372036854775807 ∧ 0 ≤ Dom.pt p s r j) := fun j => by
    have := emod_bounds (s * r ^ j) p D.h3
    have hm := D.hm
    unfold Dom.pt
    omega
  clear D hG
  go_enter Tryd.func30, Tryd.ntmps30
  go_wp2_with fail
  refine HP.out.mono ?_
  rintro e W0 ⟨rfl, hri, hb0, hsz0⟩
  have HRI := hid hri
  have HB0 := hid hb0
  have hgl0 : g < W0.heap.size := by omega
  have hlt0 : w.heap.size < W0.heap.size := by omega
  clear hsz0
  have HG0 : Hid (W0.rowIs g 4 n (fun j => .bool (G j))) := rowIs_below HG.out hb0 hgl
  clear hri hb0 HP HG
  go_wp2_with fail
  go_loopw [5, 11] (fun v iv wr => ∃ k : Nat, k ≤ n ∧ iv = .int .i64 k ∧ wr.ownsRow W0.heap.size 3 1 v (pk G (Dom.pt p s r) k).length ((pk G (Dom.pt p s r) k).map (Value.int .i64)) ∧ Below W0.heap.size W0 wr)
    (fun _ iv _ => n - (intOf iv).toNat)
  case atStart => exact ⟨0, Nat.zero_le _, rfl, World.ownsRow_nil _ _ _ _, Below.refl _ _⟩
  case round =>
    obtain ⟨k, hk, rfl, hown, hbel⟩ := hrel
    have hsz := hbel.size
    by_cases hlt : k < n
    · have hlt2 : (k : Int) < (n : Int) := by omega
      have hc1 := (rowIs_below HRI.out hbel (by omega)).cell hlt
      have hc2 := (rowIs_below HG0.out hbel hgl0).cell hlt
      have hpl := pk_len G (Dom.pt p s r) k
      have hpl2 := Cod.cnt_le G k
      have HPK : Hid (pk G (Dom.pt p s r) (k + 1) = if G k then pk G (Dom.pt p s r) k ++ [Dom.pt p s r k] else pk G (Dom.pt p s r) k) := rfl
      obtain ⟨pb1, pb2⟩ := HPB.out k
      generalize Dom.pt p s r k = x at *
      cases hgk : G k with
      | true =>
        rw [hgk] at HPK hc2
        simp only [if_true] at HPK
        have hpl3 : (pk G (Dom.pt p s r) k).length ≤ 65536 := by omega
        clear hpl hpl2
        generalize pk G (Dom.pt p s r) k = lk at *
        go_wp2_with (at_builtin; refine wpList_append_own _ rfl _ _ 22 rfl W0.heap.size 3 i0 (.int .i64 0) 1 8 Tryd.underlying22 hi hz0 hz1 hz2 rfl (by decide) _ _ _ rfl (hown.alloc _) ⟨wr.heap.size, 0, none⟩ 1 1 [.int .i64 x] rfl rfl ?c1 ?c2 ?c3 ?c4 ?c5 ?_)
        case c1 =>
          intro j u hj
          match j, hj with
          | 0, hj => simp at hj; subst hj; simp [Addr.add]
        case c2 => intro u hu; simp at hu; subst hu; rfl
        case c3 => unfold maxLen; omega
        case c4 => omega
        case c5 => simp; omega
        intro v' w5 hown2 hgrow _
        have hown3 := owns_succ hown2
        have HB : Hid (Below W0.heap.size W0 w5) := (hbel.alloc hsz _).grown hgrow (by simp; omega) (fun k hk => (hown.lt k hk).1)
        have HO := hid hown3
        clear hown2 hown3 hgrow hown hbel
        go_wp2_with fail
        go_roundw
        case rel => exact ⟨k + 1, by omega, by go_num, by rw [HPK.out]; exact HO.out, HB.out⟩
        case measure => simp [intOf]; omega
      | false =>
        rw [hgk] at HPK hc2
        simp only [Bool.false_eq_true, if_false] at HPK
        clear hpl hpl2
        generalize pk G (Dom.pt p s r) k = lk at *
        have HO := hid hown
        have HB := hid hbel
        clear hown hbel
        go_wp2_with fail
        go_roundw
        case rel => exact ⟨k + 1, by omega, by go_num, by rw [HPK.out]; exact HO.out, HB.out⟩
        case measure => simp [intOf]; omega
    · have hlt2 : ¬ (k : Int) < (n : Int) := by omega
      obtain rfl : k = n := by omega
      obtain ⟨a, c, rfl, hl⟩ := lst_of_owns hown
      have HL := hid hl
      have HB : Hid (Below w.heap.size w wr) := HB0.out.trans (hbel.mono (by omega))
      clear hown hl hbel
      go_wp2_with fail
      go_ret
      first
        | exact ⟨a, c, rfl, HL.out, HB.out⟩
        | exact ⟨a, rfl, HL.out, HB.out⟩
        | exact ⟨_, _, rfl, HL.out, HB.out⟩

/-- at which places that are not gone the word is not what the values are -/
def wq (p : Nat) (G : Nat → Bool) (V : Nat → Int) (ws : List Int) (j : Nat) : Bool := !G j && !(V j == zat ws j % (p : Int))

set_option maxRecDepth 100000 in
set_option maxHeartbeats 1000000 in
theorem wrong_any {w : World} {p b d n : Nat} {r s : Int} (D : DO w p b d n r s) (gv g c2 : Nat) (V : Nat → Int) (G : Nat → Bool) (a2 : Option Addr) (ws : List Int) (hV : w.rowIs gv 3 n (fun j => .int .i64 (V j))) (hG : w.rowIs g 4 n (fun j => .bool (G j)))
    (hVb : ∀ j, 0 ≤ V j ∧ V j < p) (hlen : ws.length = n) (hfit : Fits ws) (hrow : RowB w.heap.size w a2 ws) :
    Calls Tryd.prog 33 #[.pointer (some ⟨d, 0, none⟩), .slice (some ⟨gv, 0, none⟩) n n, .slice a2 n c2, .slice (some ⟨g, 0, none⟩) n n] w fun e w' => ∃ a c, e = .returned (.slice a (pk (wq p G V ws) (fun j => (j : Int)) n).length c) ∧ Lst w'.heap.size w' a c (pk (wq p G V ws) (fun j => (j : Int)) n) ∧ Below w.heap.size w w' := by
  obtain ⟨i0, hi, hz0, hz1, hz2⟩ := info_parts Tryd.infoInt
  obtain ⟨hn0, hn⟩ := D.pos
  have HD := hid D
  have HV := hid hV
  have HG := hid hG
  have HF := hid hfit
  have HR := hid hrow
  have hgl := hG.lt
  have hvl := hV.lt
  have h3 := D.h3
  have hm := D.hm
  have hmx : Tryd.prog.follows .mixedOrders = true := by kernel_rfl
  clear D hV hG hfit hrow
  go_enter Tryd.func33, Tryd.ntmps33
  go_wp2_with fail
  go_loopw [9, 14] (fun v iv wr => ∃ k : Nat, k ≤ n ∧ iv = .int .i64 k ∧ wr.ownsRow w.heap.size 3 1 v (pk (wq p G V ws) (fun j => (j : Int)) k).length ((pk (wq p G V ws) (fun j => (j : Int)) k).map (Value.int .i64)) ∧ Below w.heap.size w wr)
    (fun _ iv _ => n - (intOf iv).toNat)
  case atStart => exact ⟨0, Nat.zero_le _, rfl, World.ownsRow_nil _ _ _ _, Below.refl _ _⟩
  case round =>
    obtain ⟨k, hk, rfl, hown, hbel⟩ := hrel
    have hsz := hbel.size
    by_cases hlt : k < n
    · have hlt2 : (k : Int) < (n : Int) := by omega
      have hc1 := (rowIs_below HV.out hbel hvl).cell hlt
      have hc2 := (rowIs_below HG.out hbel hgl).cell hlt
      have HPK : Hid (pk (wq p G V ws) (fun j => (j : Int)) (k + 1) = if wq p G V ws k then pk (wq p G V ws) (fun j => (j : Int)) k ++ [(k : Int)] else pk (wq p G V ws) (fun j => (j : Int)) k) := rfl
      have hpl3 : (pk (wq p G V ws) (fun j => (j : Int)) k).length ≤ 65536 := by
        have := pk_len (wq p G V ws) (fun j => (j : Int)) k
        have := Cod.cnt_le (wq p G V ws) k
        omega
      have HWQ : Hid (wq p G V ws k = (!G k && !(V k == zat ws k % (p : Int)))) := rfl
      generalize wq p G V ws k = wk at *
      generalize pk (wq p G V ws) (fun j => (j : Int)) k = lk at *
      cases hgk : G k with
      | true =>
        rw [hgk] at HWQ hc2
        have hwk := HWQ.out
        simp at hwk
        rw [hwk] at HPK
        simp only [Bool.false_eq_true, if_false] at HPK
        have HO := hid hown
        have HB := hid hbel
        clear hown hbel hwk
        go_wp2_with fail
        go_quiet (fail)
        go_wp2_with fail
        go_roundw
        case rel => exact ⟨k + 1, by omega, by go_num, by rw [HPK.out]; exact HO.out, below_drewN HB.out _⟩
        case measure => simp [intOf]; omega
      | false =>
        rw [hgk] at HWQ hc2
        obtain ⟨bl, ol, rfl, hbl, hcl⟩ := HR.out k (by omega)
        have hcl2 := (hbel.cell (p := ⟨bl, ol + k, none⟩) hbl).trans hcl
        have hpc := (hbel.cell (p := ⟨b, 0, none⟩) HD.out.blt).trans HD.out.hp
        have d0 := (hbel.cell (p := ⟨d, 0, none⟩) HD.out.dlt).trans HD.out.da.f
        obtain ⟨y1, y2⟩ := HF.out k (by omega)
        obtain ⟨v1, v2⟩ := hVb k
        have HOF : Hid (∀ W : World, W.cell? ⟨b, 0, none⟩ = some (.int .i64 p) → Calls Tryd.prog 20 #[.pointer (some ⟨b, 0, none⟩), .int .i64 (zat ws k)] W fun e w' => e = .returned (.int .i64 (zat ws k % (p : Int))) ∧ w' = W) := fun W h => of_any p b _ W h3 hm h y1 y2
        clear hcl
        generalize zat ws k % (p : Int) = ym at *
        generalize zat ws k = y at *
        generalize V k = vk at *
        by_cases he : vk = ym
        · have heb : (vk != ym) = false := by rw [he]; simp
          have hwk := HWQ.out
          rw [he] at hwk
          simp at hwk
          rw [hwk] at HPK
          simp only [Bool.false_eq_true, if_false] at HPK
          have HO := hid hown
          have HB := hid hbel
          clear hown hbel hwk he
          go_wp2_with fail
          go_quiet (first
            | (go_at_call 20; exact Calls.quiet_of_same (HOF.out _ hpc)))
          go_wp2_with fail
          go_roundw
          case rel => exact ⟨k + 1, by omega, by go_num, by rw [HPK.out]; exact HO.out, below_drewN HB.out _⟩
          case measure => simp [intOf]; omega
        · have heb : (vk != ym) = true := by rw [bne_iff_ne]; exact he
          have hwk := HWQ.out
          rw [show (vk == ym) = false from by rw [beq_eq_false_iff_ne]; exact he] at hwk
          simp at hwk
          rw [hwk] at HPK
          simp only [if_true] at HPK
          clear hwk he
          go_wp2_with fail
          go_quiet (first
            | (go_at_call 20; exact Calls.quiet_of_same (HOF.out _ hpc)))
          have hown' : (wr.drewN nq).ownsRow w.heap.size 3 1 u9 lk.length (lk.map (Value.int .i64)) := hown
          have hbel' : Below w.heap.size w (wr.drewN nq) := below_drewN hbel nq
          have hsz' : w.heap.size ≤ (wr.drewN nq).heap.size := hsz
          clear hown hbel hsz hc1 hc2 hcl2 hpc d0
          generalize wr.drewN nq = X at *
          go_wp2_with (at_builtin; refine wpList_append_own _ rfl _ _ 22 rfl w.heap.size 3 i0 (.int .i64 0) 1 8 Tryd.underlying22 hi hz0 hz1 hz2 rfl (by decide) _ _ _ rfl (hown'.alloc _) ⟨X.heap.size, 0, none⟩ 1 1 [.int .i64 k] rfl rfl ?c1 ?c2 ?c3 ?c4 ?c5 ?_)
          case c1 =>
            intro j u hj
            match j, hj with
            | 0, hj => simp at hj; subst hj; simp [Addr.add]
          case c2 => intro u hu; simp at hu; subst hu; rfl
          case c3 => unfold maxLen; omega
          case c4 => omega
          case c5 => simp; omega
          intro v' w5 hown2 hgrow _
          have hown3 := owns_succ hown2
          have HB : Hid (Below w.heap.size w w5) := (hbel'.alloc hsz' _).grown hgrow (by simp; omega) (fun k hk => (hown'.lt k hk).1)
          have HO := hid hown3
          clear hown2 hown3 hgrow hown' hbel'
          go_wp2_with fail
          go_roundw
          case rel => exact ⟨k + 1, by omega, by go_num, by rw [HPK.out]; exact HO.out, HB.out⟩
          case measure => simp [intOf]; omega
    · have hlt2 : ¬ (k : Int) < (n : Int) := by omega
      obtain rfl : k = n := by omega
      obtain ⟨a, c, rfl, hl⟩ := lst_of_owns hown
      have HL := hid hl
      have HB := hid hbel
      clear hown hl hbel
      go_wp2_with fail
      go_ret
      first
        | exact ⟨a, c, rfl, HL.out, HB.out⟩
        | exact ⟨_, _, rfl, HL.out, HB.out⟩

set_option maxRecDepth 100000 in
theorem power_any (n : Nat) (w : World) (hn : n ≤ 65536) :
    Calls Tryd.prog 62 #[.int .i64 n] w fun e w' => e = .returned (.slice (some ⟨w.heap.size, 0, none⟩) (n + 1) (n + 1)) ∧ Cells w.heap.size 0 (n + 1) (zat (Cod.pw n)) w' ∧ Below w.heap.size w w' ∧ w'.heap.size = w.heap.size + 1 := by
  have hmk := fun n h1 h2 w => run_make_row' (P := Tryd.prog) 22 3 (.int .i64 0) 8 Tryd.underlying22 Tryd.infoInt rfl .i64 .i64 n h1 h2 w
  have hmk2 := hmk (n + 1) (by omega) (by omega)
  clear hmk
  obtain ⟨m, hmd⟩ : ∃ m, m = n + 1 := ⟨_, rfl⟩
  rw [← hmd] at hmk2 ⊢
  have e1 : (n : Int) + 1 = (m : Int) := by omega
  have e2 : (n : Int) < (m : Int) := by omega
  have HMD := hid hmd
  clear hmd
  have hc0 : (w.alloc (.cells (madeCells #[.int .i64 0] m) 3)).cell? ⟨w.heap.size, n, none⟩ = some (.int .i64 0) := by
    rw [World.cell?_alloc_at _ _ _ _ (by simp)]
    simp [madeCells, Nat.mod_one, show n < m by omega]
  have hs0 : (w.alloc (.cells (madeCells #[.int .i64 0] m) 3)).frozen? ⟨w.heap.size, n, none⟩ = false := by simp
  go_enter Tryd.func62, Tryd.ntmps62
  go_wp2_with fail
  go_ret
  refine ⟨rfl, ⟨fun j hj => ?_, fun j hj => by simp⟩, (Below.refl w.heap.size w).alloc (Nat.le_refl _) _, by simp⟩
  rw [Nat.zero_add, zat_cf, show (Cod.pw n).getD j 0 = Pol.cf (Cod.pw n) j from rfl, Cod.pw_cf, World.cell?_alloc_at _ _ _ _ (by simp)]
  by_cases e : j = n
  · subst e; simp [madeCells, hj]
  · simp [madeCells, hj, Nat.mod_one, e, show ¬ n = j from fun h => e h.symm]

end Go.Proofs.YtbpkmhibdaafiadDoor
