/- Law WholeAgain. -/
import Derived.Test.YtcajofdmadpmoaaWgAE
import Derived.Test.YtcajofdmadpmoaaWbJ
namespace Go.Proofs.Ytcajofdmadpmoaa
open Go.RowKit

/-- bytes of one's own, as an argument -/
theorem OwnB.by {base : Nat} {w : World} {v : Value} {bs : List Nat} (h : OwnB base w v bs) : ∃ a c, v = .slice a bs.length c ∧ ByR w.heap.size w a c bs := by
  have h0 := h
  rcases h.2 with ⟨rfl, hn⟩ | ⟨g, cap, cur, rfl, _, hg, hr, _⟩
  · exact ⟨none, 0, by rw [hn], ⟨fun k hk => by omega, by omega, fun _ => rfl⟩⟩
  · refine ⟨some ⟨g, 0, none⟩, cap, rfl, ⟨fun k hk => ?_, hr, fun e => by cases e⟩⟩
    refine ⟨g, 0, rfl, (Array.getElem?_eq_some_iff.1 hg).1, ?_⟩
    rw [Nat.zero_add, h0.cellAt k (by omega)]
    simp [u8s, bat, hk]
/-- the voucher of the law -/
def zAg : VoZ := ⟨[1, 300], [], 0, [], [], [], ⟨[], [], []⟩, ⟨[], [], []⟩⟩
theorem vby300 : vby 300 = [172, 2] := by rw [vby_big (by decide), vby_small (by decide)]
theorem vbV_zAg : vbV zAg = [2, 1, 172, 2, 0, 0, 0, 0, 0, 0, 0, 0, 0, 0, 0] := by
  have h1 : uzz 1 = 1 := by decide
  have h2 : uzz 300 = 300 := by decide
  have h3 : uzz 0 = 0 := by decide
  simp [vbV, zAg, vbL, vbR, vbOs, vbO, vbI, h1, h2, h3, vby300, vby_small]
theorem rdAll_zAg : rdAll (vbV zAg) = some zAg := by
  refine rdAll_all ?_
  have h := rdV_fwd zAg [] ?_
  · rw [List.append_nil] at h; exact h
  · unfold okV okL okR okOs okO okL okR zAg Z64
    simp

theorem lstR_nil (n : Nat) (w : World) : LstR n w none 0 [] := ⟨fun _ hk => absurd hk (Nat.not_lt_zero _), Nat.zero_le _, fun _ => rfl⟩
theorem lstF_nil (n : Nat) (w : World) : LstF n w none 0 [] := ⟨fun _ hk => absurd hk (Nat.not_lt_zero _), Nat.zero_le _, fun _ => rfl⟩
theorem PVo.main0 {w : World} {l : List Value} {z : VoZ} (h : PVo w (.agg l.toArray) z) : ∃ a c, l[0]? = some (.slice a z.main.length c) ∧ Lst w.heap.size w a c z.main := by
  obtain ⟨v0, v1, v2, v3, v4, v5, v6, v7, v8, v9, va, vb, e, h1, h2, h3, h4⟩ := h
  injection e with e
  injection e with e
  subst e
  obtain ⟨a, c, rfl, h⟩ := h1.h0.lst
  exact ⟨a, c, rfl, h⟩
/-- Bytes at a voucher that was read -/
theorem bytes_read (v : Value) (z : VoZ) (w : World) (h : PVo w v z) (hl : (vbV z).length ≤ 70368744177664) : Calls Try.prog 4 #[v] w (ApE w.heap.size w (vbV z)) := by
  obtain ⟨v0, v1, v2, v3, v4, v5, v6, v7, v8, v9, va, vb, rfl, ⟨h0, h1, rfl, h3, h4⟩, h5, ⟨p6, p7, p8, e6, h6, h7, h8⟩, ⟨p9, pa, pb, e9, h9, ha, hb⟩⟩ := h
  injection e6 with e6
  injection e6 with e6
  injection e6 with e6 e7
  injection e7 with e7 e8
  injection e8 with e8 _
  subst e6 e7 e8
  injection e9 with e9
  injection e9 with e9
  injection e9 with e9 ea
  injection ea with ea eb
  injection eb with eb _
  subst e9 ea eb
  obtain ⟨a0, c0, rfl, l0⟩ := h0.lst
  obtain ⟨a1, c1, rfl, l1⟩ := h1.lst
  obtain ⟨a3, c3, rfl, l3⟩ := h3.lst
  obtain ⟨a4, c4, rfl, l4⟩ := h4.lst
  obtain ⟨a5, c5, rfl, l5⟩ := h5.lst
  obtain ⟨a6, c6, rfl, l6⟩ := h6.lst
  obtain ⟨a7, c7, rfl, l7⟩ := h7.lst
  obtain ⟨a8, c8, rfl, l8⟩ := h8.lst
  obtain ⟨a9, c9, rfl, l9⟩ := h9.lst
  obtain ⟨aa, ca, rfl, la⟩ := ha.lst
  obtain ⟨ab, cb, rfl, lb⟩ := hb.lst
  exact bytes_any z w a0 a1 a3 a4 a5 a6 a7 a8 a9 aa ab c0 c1 c3 c4 c5 c6 c7 c8 c9 ca cb l0 l1 l3 l4 l5 l6 l7 l8 l9 la lb hl

set_option maxRecDepth 100000 in
set_option maxHeartbeats 8000000 in
theorem again_walk (a : Option Addr) (c : Nat) (bs : List Nat) (w : World) (hB : ByR w.heap.size w a c bs) (h256 : ∀ b, b ∈ bs → b < 256) (hsz : bs.length ≤ 1048576) :
    Calls Try.prog 3 #[.slice a bs.length c] w fun e w' => e = .returned (.bool true) ∧ Below w.heap.size w w' := by
  obtain ⟨W0, hW0⟩ : ∃ W0, W0 = w.alloc (.cells #[.int .i64 1, .int .i64 300] 3) := ⟨_, rfl⟩
  have hb0 : Below w.heap.size w W0 := by rw [hW0]; exact (Below.refl _ _).alloc (Nat.le_refl _) _
  have hsz0 : W0.heap.size = w.heap.size + 1 := by rw [hW0]; simp
  have hq : W0.heap[w.heap.size]? = some (.cells #[.int .i64 1, .int .i64 300] 3 (0, 0)) := by rw [hW0]; exact heap_alloc_new w _
  have hm : Lst W0.heap.size W0 (some ⟨w.heap.size, 0, none⟩) 2 [1, 300] := ⟨fun k hk => ⟨w.heap.size, 0, rfl, by omega, by
    match k, hk with
    | 0, _ => simp [World.cell?, hq]; rfl
    | 1, _ => simp [World.cell?, hq]; rfl
    | k + 2, hk => simp at hk; omega⟩, by simp, fun e => by cases e⟩
  have HY := hid (bytes_any zAg W0 (some ⟨w.heap.size, 0, none⟩) none none none none none none none none none none 2 0 0 0 0 0 0 0 0 0 0 hm (Lst.none _ _) (lstR_nil _ _) (Lst.none _ _) (lstF_nil _ _) (Lst.none _ _) (lstR_nil _ _) (lstR_nil _ _) (Lst.none _ _) (lstR_nil _ _) (lstR_nil _ _) (by rw [vbV_zAg]; decide))
  have HW0 := hid hW0
  have HB0 := hid hb0
  have HB := hid hB
  have H2 := hid h256
  have HSZ := hid hsz
  have hsz1 : (bs.length : Int) ≤ 1048576 := by omega
  obtain ⟨n, hn⟩ : ∃ n, n = bs.length := ⟨_, rfl⟩
  have HN := hid hn
  rw [← hn]
  clear hW0 hb0 hq hm hB h256 hsz hsz0 hn hsz1
  go_enter Try.func3, Try.ntmps3
  go_wp2_with fail
  rw [← HW0.out]
  refine HY.out.mono ?_
  rintro e w1 ⟨v1, rfl, k1, k2, k3⟩
  obtain ⟨a1, c1, e1, hy1⟩ := OwnB.by k1
  rw [vbV_zAg] at e1
  have e1' : v1 = .slice a1 15 c1 := e1
  subst e1'
  have HR := hid (read_any a1 c1 (vbV zAg) w1 hy1 (by rw [vbV_zAg]; decide) (by rw [vbV_zAg]; decide))
  rw [rdAll_zAg, show (vbV zAg).length = 15 from by rw [vbV_zAg]; rfl] at HR
  have HB1 := hid (HB0.out.trans (k2.mono HB0.out.size))
  clear k1 k2 k3 hy1 e1 HY HW0 HB0
  go_wp2_with fail
  refine HR.out.mono ?_
  rintro e w2 ⟨hb2, v2, rfl, hp2⟩
  obtain ⟨l2, rfl, hl2, ha2⟩ := PVo.cells hp2
  obtain ⟨am, cm, hm0, hml⟩ := PVo.main0 hp2
  obtain ⟨bm, om, ham, hbm, hm1⟩ := hml.row 1 (by decide)
  subst ham
  have hm1' : w2.cell? ⟨bm, om + 1, none⟩ = some (.int .i64 300) := hm1
  obtain ⟨C, hC⟩ : ∃ C, C = w2.heap.size := ⟨_, rfl⟩
  obtain ⟨V2, hV2⟩ : ∃ V, V = w2.alloc (.cells #[.slice none 0 0, .slice none 0 0, .int .i64 0, .slice none 0 0, .slice none 0 0, .slice none 0 0, .slice none 0 0, .slice none 0 0, .slice none 0 0, .slice none 0 0, .slice none 0 0, .slice none 0 0] 32) := ⟨_, rfl⟩
  have hvc : V2.heap[C]? = some (.cells zvo.toArray 32 (0, 0)) := by rw [hV2, hC]; exact heap_alloc_new w2 _
  have hbv : Below C w2 V2 := by rw [hV2, hC]; exact (Below.refl _ _).alloc (Nat.le_refl _) _
  obtain ⟨W3, hW3⟩ : ∃ W, W = V2.setRow C l2.toArray := ⟨_, rfl⟩
  have hc3 : W3.heap[C]? = some (.cells l2.toArray 32 (0, 0)) := by rw [hW3]; exact setRow_heap _ _ _ _ _ _ hvc
  have hb3 : Below C w2 W3 := by rw [hW3]; exact below_setRow hbv (Nat.le_refl _) _
  have HB2 := HB1.out.trans (hb2.mono HB1.out.size)
  have HB3 := hid (HB2.trans (hb3.mono (by rw [hC]; exact HB2.size)))
  have x0 : W3.cell? ⟨C, 0, none⟩ = some (.slice (some ⟨bm, om, none⟩) 2 cm) := by simp [World.cell?, hc3, hm0]; rfl
  have x1 : W3.cell? ⟨bm, om + 1, none⟩ = some (.int .i64 300) := (hb3.cell (p := ⟨bm, om + 1, none⟩) (by rw [hC]; exact hbm)).trans hm1'
  have HVC := hid hvc
  have HC3 := hid hc3
  have HV2 := hid hV2
  have HW3 := hid hW3
  have HCC := hid hC
  have HL2 := hid hl2
  have HA2 := hid ha2
  have HWC : Hid (w.heap.size ≤ C) := by unfold Hid; rw [hC]; exact HB2.size
  have HB' := hid (HB.out.blocks (fun b hb => HB3.out.block b hb))
  have HR := hid (read_any a c bs W3 (HB'.out.mono HB3.out.size) H2.out HSZ.out)
  rw [← HN.out] at HR
  clear hb2 hp2 hl2 ha2 HB1 hm0 hml hbm hm1 hm1' hC hV2 hvc hbv hW3 hc3 hb3 HB2
  go_wp2_with (rw [← HV2.out, ← HCC.out]; refine wpList_store_row rfl 32 _ _ rfl C l2.toArray rfl rfl _ _ HVC.out (by rw [List.size_toArray, HL2.out]; kernel_rfl) (by rw [List.size_toArray, List.size_toArray, HL2.out]; rfl) HA2.out ?_; rw [← HW3.out])
  clear x0 x1
  refine HR.out.mono ?_
  rintro e w4 ⟨hb4, he⟩
  have HC4 := hid ((hb4.block C (Array.getElem?_eq_some_iff.1 HC3.out).1).trans HC3.out)
  have HB4 := hid (HB3.out.trans (hb4.mono HB3.out.size))
  cases hr : rdAll bs with
  | none =>
    rw [hr] at he
    have he' : e = .returned (.tuple #[.agg zvo.toArray, .iface 45 (.int .i64 5)]) := he
    subst he'
    have HAZ : Hid (zvo.toArray.all (·.oneCell') = true) := by unfold Hid; simp [zvo, Value.oneCell']
    have HE : Hid (Below w.heap.size w (w4.setRow C zvo.toArray)) := below_setRow HB4.out HWC.out _
    clear he hr hb4 HR HW3 HV2 HVC HC3 HB3
    go_wp2_with (refine wpList_store_row rfl 32 _ _ rfl C zvo.toArray rfl rfl _ _ HC4.out (by kernel_rfl) (by rw [List.size_toArray, HL2.out]; rfl) HAZ.out ?_)
    go_ret
    exact ⟨rfl, HE.out⟩
  | some z =>
    rw [hr] at he
    obtain ⟨v4, rfl, hp4⟩ := he
    obtain ⟨l4, rfl, hl4, ha4⟩ := PVo.cells hp4
    have hbs : vbV z = bs := by
      have h1 : rdV bs = some (z, []) := by
        unfold rdAll at hr
        split at hr
        · rename_i z' h; injection hr with hr; subst hr; exact h
        · cases hr
      have := rdV_back bs z [] H2.out h1
      rw [List.append_nil] at this
      exact this.symm
    obtain ⟨W5, hW5⟩ : ∃ W, W = w4.setRow C l4.toArray := ⟨_, rfl⟩
    have hc5 : W5.heap[C]? = some (.cells l4.toArray 32 (0, 0)) := by rw [hW5]; exact setRow_heap _ _ _ _ _ _ HC4.out
    have hb5 : Below w.heap.size w W5 := by rw [hW5]; exact below_setRow HB4.out HWC.out _
    have hp5 : PVo W5 (.agg l4.toArray) z := by rw [hW5]; exact hp4.ko (KO.oth HC4.out (by decide) (by decide) (by decide) (by simp) (fun b _ hb => setRow_other _ _ _ _ hb))
    have HY2 := hid (bytes_read (.agg l4.toArray) z W5 hp5 (by rw [hbs]; have := HSZ.out; omega))
    rw [hbs] at HY2
    have HC5 := hid hc5
    have HB5 := hid hb5
    have HW5 := hid hW5
    have HL4 := hid hl4
    have HA4 := hid ha4
    clear hr hb4 hp4 hl4 ha4 hbs hW5 hc5 hb5 hp5 HR HW3 HV2 HVC HC3 HB3 HCC
    go_wp2_with (first
      | (refine wpList_load_row rfl 32 _ rfl C rfl _ _ _ _ HC5.out Try.underlying32 rfl (by rw [List.size_toArray, HL4.out]; kernel_rfl) ?_)
      | (refine wpList_store_row rfl 32 _ _ rfl C l4.toArray rfl rfl _ _ HC4.out (by rw [List.size_toArray, HL4.out]; kernel_rfl) (by rw [List.size_toArray, List.size_toArray, HL2.out, HL4.out]) HA4.out ?_; rw [← HW5.out]))
    refine HY2.out.mono ?_
    rintro e w6 ⟨v6, rfl, k1, k2, k3⟩
    obtain ⟨a6, c6, e6, hy6⟩ := OwnB.by k1
    have HB6 := hid (HB5.out.trans (k2.mono HB5.out.size))
    have HY6 := hid hy6
    have HX6 := hid (HB.out.blocks (fun b hb => HB6.out.block b hb))
    have hn20 : n ≤ 1048576 := by rw [HN.out]; exact HSZ.out
    rw [← HN.out] at e6
    subst e6
    have q1 : ((n : Int) != (n : Int)) = false := by simp
    clear k1 k2 k3 hy6 HY2 HC5 HB5 HW5 HC4 HB4
    go_wp2_with fail
    go_loopw [6] (fun iv wr => ∃ (i m : Nat), i ≤ n ∧ iv = .int .i64 (i : Int) ∧ Hid (wr = w6.drewN m)) (fun iv _ => n - (intOf iv).toNat)
    case atStart => exact ⟨0, 0, Nat.zero_le _, rfl, rfl⟩
    case round =>
      obtain ⟨i, m, hi, rfl, HWr⟩ := hrel
      by_cases hlt : i < n
      · have hlt2 : (i : Int) < (n : Int) := by omega
        have hks : IntKind.i64.wrap ((i : Int) + 1) = (i : Int) + 1 := by rw [IntKind.wrap_i64]; omega
        obtain ⟨bx, ox, rfl, _, d0⟩ := HX6.out.row i (by rw [← HN.out]; exact hlt)
        obtain ⟨by', oy, rfl, _, d1⟩ := HY6.out.row i (by rw [← HN.out]; exact hlt)
        have d0' : wr.cell? ⟨bx, ox + i, none⟩ = some (.int .u8 (bat bs i : Int)) := by rw [HWr.out]; exact d0
        have d1' : wr.cell? ⟨by', oy + i, none⟩ = some (.int .u8 (bat bs i : Int)) := by rw [HWr.out]; exact d1
        generalize bat bs i = x at *
        have q2 : ((x : Int) != (x : Int)) = false := by simp
        clear d0 d1
        go_wp2_with fail
        go_quiet (fail)
        go_wp2_with fail
        go_roundw
        case rel => exact ⟨i + 1, _, by omega, by go_num, by unfold Hid; rw [HWr.out, World.drewN_drewN]⟩
        case measure => simp [intOf]; omega
      · obtain rfl : i = n := by omega
        have hlt2 : ¬ (i : Int) < (i : Int) := by omega
        go_wp2_with fail
        go_ret
        exact ⟨rfl, by rw [HWr.out]; exact below_drewN HB6.out _⟩

end Go.Proofs.Ytcajofdmadpmoaa
