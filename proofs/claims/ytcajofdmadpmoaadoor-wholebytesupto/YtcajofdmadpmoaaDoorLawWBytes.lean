/- Law WholeBytes. -/
import Derived.Test.YtcajofdmadpmoaaDoorWbZ
import Derived.Test.YtcajofdmadpmoaaDoorWbY
import Derived.Test.YtcajofdmadpmoaaDoorWbAN
import Derived.Test.YtcajofdmadpmoaaDoorEnds
import Derived.Test.YtcajofdmadpmoaaDoorLawWAgain
namespace Go.Proofs.YtcajofdmadpmoaaDoor
open Go.RowKit

/-- a voucher's cells, its lists below a block -/
def VoQ (N : Nat) (w : World) (z : VoZ) (l : List Value) : Prop := ∃ (am aa ar als ao axp axr axn ayp ayr ayn : Option Addr) (cm ca cr cls co cxp cxr cxn cyp cyr cyn : Nat), l = [.slice am z.main.length cm, .slice aa z.aux.length ca, .int .i64 z.tries, .slice ar z.roots.length cr, .slice als z.last.length cls, .slice ao z.opens.length co, .slice axp z.rows.ps.length cxp, .slice axr z.rows.rows.length cxr, .slice axn z.rows.nodes.length cxn, .slice ayp z.lst.ps.length cyp, .slice ayr z.lst.rows.length cyr, .slice ayn z.lst.nodes.length cyn] ∧ VoL N w z am aa ar als ao axp axr axn ayp ayr ayn cm ca cr cls co cxp cxr cxn cyp cyr cyn
theorem VoQ.up {N : Nat} {w w' : World} {z : VoZ} {l : List Value} (h : VoQ N w z l) (e : Below N w w') : VoQ N w' z l := by
  obtain ⟨am, aa, ar, als, ao, axp, axr, axn, ayp, ayr, ayn, cm, ca, cr, cls, co, cxp, cxr, cxn, cyp, cyr, cyn, rfl, h⟩ := h
  exact ⟨am, aa, ar, als, ao, axp, axr, axn, ayp, ayr, ayn, cm, ca, cr, cls, co, cxp, cxr, cxn, cyp, cyr, cyn, rfl, h.below e⟩
theorem VoQ.mono {N M : Nat} {w : World} {z : VoZ} {l : List Value} (h : VoQ N w z l) (e : N ≤ M) : VoQ M w z l := by
  obtain ⟨am, aa, ar, als, ao, axp, axr, axn, ayp, ayr, ayn, cm, ca, cr, cls, co, cxp, cxr, cxn, cyp, cyr, cyn, rfl, h⟩ := h
  exact ⟨am, aa, ar, als, ao, axp, axr, axn, ayp, ayr, ayn, cm, ca, cr, cls, co, cxp, cxr, cxn, cyp, cyr, cyn, rfl, h.mono e⟩
theorem VoQ.len {N : Nat} {w : World} {z : VoZ} {l : List Value} (h : VoQ N w z l) : l.length = 12 := by
  obtain ⟨am, aa, ar, als, ao, axp, axr, axn, ayp, ayr, ayn, cm, ca, cr, cls, co, cxp, cxr, cxn, cyp, cyr, cyn, rfl, h⟩ := h
  rfl
theorem VoQ.one {N : Nat} {w : World} {z : VoZ} {l : List Value} (h : VoQ N w z l) : l.toArray.all (·.oneCell') = true := by
  obtain ⟨am, aa, ar, als, ao, axp, axr, axn, ayp, ayr, ayn, cm, ca, cr, cls, co, cxp, cxr, cxn, cyp, cyr, cyn, rfl, h⟩ := h
  simp [Value.oneCell']
theorem PVo.q {w : World} {v : Value} {z : VoZ} (h : PVo w v z) : ∃ l : List Value, v = .agg l.toArray ∧ VoQ w.heap.size w z l := by
  obtain ⟨am, aa, ar, als, ao, axp, axr, axn, ayp, ayr, ayn, cm, ca, cr, cls, co, cxp, cxr, cxn, cyp, cyr, cyn, e, h2⟩ := VoL.of h
  exact ⟨[.slice am z.main.length cm, .slice aa z.aux.length ca, .int .i64 z.tries, .slice ar z.roots.length cr, .slice als z.last.length cls, .slice ao z.opens.length co, .slice axp z.rows.ps.length cxp, .slice axr z.rows.rows.length cxr, .slice axn z.rows.nodes.length cxn, .slice ayp z.lst.ps.length cyp, .slice ayr z.lst.rows.length cyr, .slice ayn z.lst.nodes.length cyn], e, am, aa, ar, als, ao, axp, axr, axn, ayp, ayr, ayn, cm, ca, cr, cls, co, cxp, cxr, cxn, cyp, cyr, cyn, rfl, h2⟩
theorem PVo.q2 {w : World} {l : List Value} {z : VoZ} (h : PVo w (.agg l.toArray) z) : VoQ w.heap.size w z l := by
  obtain ⟨l', e, h2⟩ := PVo.q h
  injection e with e
  injection e with e
  rw [e]
  exact h2
theorem vby_256 : ∀ x b, b ∈ vby x → b < 256 := fun x => by
  induction x using Nat.strongRecOn with
  | _ x ih =>
    intro b hb
    by_cases h : x < 128
    · rw [vby_small h, List.mem_singleton] at hb
      omega
    · rw [vby_big h, List.mem_cons] at hb
      rcases hb with rfl | hb
      · omega
      · exact ih (x / 128) (by omega) b hb
theorem flat_256 {α : Type} {f : α → List Nat} {l : List α} (p : List Nat) (hp : ∀ b, b ∈ p → b < 256) (h : ∀ y b, b ∈ f y → b < 256) : ∀ b, b ∈ p ++ (l.map f).flatten → b < 256 := fun b hb => by
  rcases List.mem_append.1 hb with hb | hb
  · exact hp b hb
  · obtain ⟨y, hy, hb⟩ := List.mem_flatten.1 hb
    obtain ⟨x, _, rfl⟩ := List.mem_map.1 hy
    exact h x b hb
theorem vbL_256 (l : List Int) : ∀ b, b ∈ vbL l → b < 256 := flat_256 _ (vby_256 _) (fun _ => vby_256 _)
theorem vbR_256 (l : List (List Int)) : ∀ b, b ∈ vbR l → b < 256 := flat_256 _ (vby_256 _) vbL_256
theorem vbO_256 (o : OnZ) : ∀ b, b ∈ vbO o → b < 256 := fun b hb => by
  unfold vbO at hb
  rcases List.mem_append.1 hb with hb | hb
  · rcases List.mem_append.1 hb with hb | hb
    · exact vbL_256 _ b hb
    · exact vbR_256 _ b hb
  · exact vbR_256 _ b hb
theorem vbOs_256 (l : List OnZ) : ∀ b, b ∈ vbOs l → b < 256 := flat_256 _ (vby_256 _) vbO_256
theorem vbV_256 (z : VoZ) : ∀ b, b ∈ vbV z → b < 256 := fun b hb => by
  unfold vbV at hb
  simp only [List.mem_append] at hb
  rcases hb with ((((((h | h) | h) | h) | h) | h) | h) | h
  · exact vbL_256 _ b h
  · exact vbL_256 _ b h
  · exact vby_256 _ b h
  · exact vbR_256 _ b h
  · exact vbL_256 _ b h
  · exact vbOs_256 _ b h
  · exact vbO_256 _ b h
  · exact vbO_256 _ b h
/-- no voucher -/
def zEm : VoZ := ⟨[], [], 0, [], [], [], ⟨[], [], []⟩, ⟨[], [], []⟩⟩
theorem voq_em (w : World) : VoQ w.heap.size w zEm zvo :=
  ⟨none, none, none, none, none, none, none, none, none, none, none, 0, 0, 0, 0, 0, 0, 0, 0, 0, 0, 0, rfl, Lst.none _ _, Lst.none _ _, lstR_nil _ _, Lst.none _ _, lstF_nil _ _, Lst.none _ _, lstR_nil _ _, lstR_nil _ _, Lst.none _ _, lstR_nil _ _, lstR_nil _ _⟩
theorem smV_em : SmV zEm := smV_of (by simp [vbV, zEm, vbL, vbR, vbOs, vbO, vbI, uzz, vby_small])
theorem bytes_q {w : World} {z : VoZ} {l : List Value} (h : VoQ w.heap.size w z l) (hl : (vbV z).length ≤ 70368744177664) : Calls Tryd.prog 4 #[.agg l.toArray] w (ApE w.heap.size w (vbV z)) := by
  obtain ⟨am, aa, ar, als, ao, axp, axr, axn, ayp, ayr, ayn, cm, ca, cr, cls, co, cxp, cxr, cxn, cyp, cyr, cyn, rfl, h⟩ := h
  exact bytes_any z w am aa ar als ao axp axr axn ayp ayr ayn cm ca cr cls co cxp cxr cxn cyp cyr cyn h.m h.a h.r h.ls h.o h.xp h.xr h.xn h.yp h.yr h.yn hl
theorem rbytes_q {w : World} {z : VoZ} {l : List Value} (h : VoQ w.heap.size w z l) (hl : (vbV z).length ≤ 70368744177664) : Calls Tryd.prog 5 #[.agg l.toArray] w fun e w' => ∃ v', e = .returned v' ∧ OwnB w.heap.size w' v' (vbV z) ∧ Below w.heap.size w w' := by
  obtain ⟨am, aa, ar, als, ao, axp, axr, axn, ayp, ayr, ayn, cm, ca, cr, cls, co, cxp, cxr, cxn, cyp, cyr, cyn, rfl, h⟩ := h
  exact refBytes_any z w am aa ar als ao axp axr axn ayp ayr ayn cm ca cr cls co cxp cxr cxn cyp cyr cyn h.m h.a h.r h.ls h.o h.xp h.xr h.xn h.yp h.yr h.yn hl
theorem vouchers_q {w : World} {z : VoZ} {l l' : List Value} (hs : SmV z) (h : VoQ w.heap.size w z l) (h' : VoQ w.heap.size w z l') : Calls Tryd.prog 7 #[.agg l.toArray, .agg l'.toArray] w fun e w' => e = .returned (.bool true) ∧ Below w.heap.size w w' := by
  obtain ⟨uam, uaa, uar, uals, uao, uaxp, uaxr, uaxn, uayp, uayr, uayn, ucm, uca, ucr, ucls, uco, ucxp, ucxr, ucxn, ucyp, ucyr, ucyn, rfl, h⟩ := h
  obtain ⟨vam, vaa, var, vals, vao, vaxp, vaxr, vaxn, vayp, vayr, vayn, vcm, vca, vcr, vcls, vco, vcxp, vcxr, vcxn, vcyp, vcyr, vcyn, rfl, h'⟩ := h'
  exact vouchers_same z uam uaa uar uals uao uaxp uaxr uaxn uayp uayr uayn ucm uca ucr ucls uco ucxp ucxr ucxn ucyp ucyr ucyn vam vaa var vals vao vaxp vaxr vaxn vayp vayr vayn vcm vca vcr vcls vco vcxp vcxr vcxn vcyp vcyr vcyn w hs h h'

set_option maxRecDepth 100000 in
set_option maxHeartbeats 16000000 in
theorem wbytes_walk (z : VoZ) (l : List Value) (a : Option Addr) (c : Nat) (bs : List Nat) (w : World) (hq : VoQ w.heap.size w z l) (hok : okV z) (hlen : (vbV z).length ≤ 10485760) (hB : ByR w.heap.size w a c bs) (h256 : ∀ b, b ∈ bs → b < 256) (hsz : bs.length ≤ 1048576) (hLd : Laid w) :
    Calls Tryd.prog 3 #[.agg l.toArray, .slice a bs.length c] w fun e w' => e = .returned (.bool true) ∧ Below w.heap.size w w' := by
  obtain ⟨P, hP⟩ : ∃ P, P = w.heap.size := ⟨_, rfl⟩
  obtain ⟨W0, hW0⟩ : ∃ W0, W0 = w.alloc (.cells l.toArray 30) := ⟨_, rfl⟩
  have hb0 : Below w.heap.size w W0 := by rw [hW0]; exact (Below.refl _ _).alloc (Nat.le_refl _) _
  have hc0 : W0.heap[P]? = some (.cells l.toArray 30 (0, 0)) := by rw [hW0, hP]; exact heap_alloc_new w _
  have hPlt : P < W0.heap.size := by rw [hW0, hP]; simp
  obtain ⟨m, hm⟩ : ∃ m, m = (vbV z).length := ⟨_, rfl⟩
  have HM := hid hm
  have hms : m ≤ 10485760 := by rw [hm]; exact hlen
  have HL := hid hq.len
  have HO := hid hq.one
  have hq0 := (hq.up hb0).mono hb0.size
  have HY := hid (bytes_q hq0 (by omega))
  have HQ := hid hq
  have HW0 := hid hW0
  have HPP := hid hP
  have HB0 := hid hb0
  have HC0 := hid hc0
  have HPL := hid hPlt
  have HOK := hid hok
  have HLEN := hid hlen
  have HB := hid hB
  have H2 := hid h256
  have HSZ := hid hsz
  have HLD := hid hLd
  obtain ⟨n, hn⟩ : ∃ n, n = bs.length := ⟨_, rfl⟩
  have HN := hid hn
  rw [← hn]
  clear hW0 hP hb0 hc0 hPlt hq hq0 hok hlen hB h256 hsz hLd hn hm
  go_enter Tryd.func3, Tryd.ntmps3
  go_wp2_with (rw [← HW0.out, ← HPP.out]; refine wpList_load_row rfl 30 _ rfl P rfl _ _ _ _ HC0.out Tryd.underlying30 rfl (by rw [List.size_toArray, HL.out]; kernel_rfl) ?_)
  refine HY.out.mono ?_
  rintro e w1 ⟨v1, rfl, k1, k2, k3⟩
  obtain ⟨a1, c1, e1, hy1⟩ := OwnB.by k1
  rw [← HM.out] at e1
  subst e1
  have HB1 := hid (HB0.out.trans (k2.mono HB0.out.size))
  have HC1 := hid ((k2.block P HPL.out).trans HC0.out)
  have HPL1 := hid (Nat.lt_of_lt_of_le HPL.out k2.size)
  have HZ := hid (rbytes_q ((HQ.out.up HB1.out).mono HB1.out.size) (by have := HLEN.out; omega))
  have HY1 := hid hy1
  clear k1 k2 k3 hy1 HY HW0 HB0 HC0 HPL
  go_wp2_with (refine wpList_load_row rfl 30 _ rfl P rfl _ _ _ _ HC1.out Tryd.underlying30 rfl (by rw [List.size_toArray, HL.out]; kernel_rfl) ?_)
  refine HZ.out.mono ?_
  rintro e w2 ⟨v2, rfl, k1, k2⟩
  obtain ⟨a2, c2, e2, hy2⟩ := OwnB.by k1
  rw [← HM.out] at e2
  subst e2
  have HY2 := hid hy2
  have HB2 := hid (HB1.out.trans (k2.mono HB1.out.size))
  have HC2 := hid ((k2.block P HPL1.out).trans HC1.out)
  have HPL2 := hid (Nat.lt_of_lt_of_le HPL1.out k2.size)
  have HX2 := hid (ByR.mono (HY1.out.blocks (fun b hb => k2.block b hb)) k2.size)
  have q1 : ((m : Int) == (m : Int)) = true := by simp
  clear k1 k2 hy2 HZ HB1 HC1 HPL1 HY1
  go_wp2_with fail
  go_loopw [7, 8] (fun sv iv wr => ∃ (i k : Nat), i ≤ m ∧ sv = .bool true ∧ iv = .int .i64 (i : Int) ∧ Hid (wr = w2.drewN k)) (fun _ iv _ => m - (intOf iv).toNat)
  case atStart => exact ⟨0, 0, Nat.zero_le _, rfl, rfl, rfl⟩
  case round =>
    obtain ⟨i, k, hi, rfl, rfl, HWr⟩ := hrel
    by_cases hlt : i < m
    · have hlt2 : (i : Int) < (m : Int) := by omega
      have hks : IntKind.i64.wrap ((i : Int) + 1) = (i : Int) + 1 := by rw [IntKind.wrap_i64]; omega
      obtain ⟨bx, ox, rfl, _, d0⟩ := HX2.out.row i (by rw [← HM.out]; exact hlt)
      obtain ⟨by', oy, rfl, _, d1⟩ := HY2.out.row i (by rw [← HM.out]; exact hlt)
      have d0' : wr.cell? ⟨bx, ox + i, none⟩ = some (.int .u8 (bat (vbV z) i : Int)) := by rw [HWr.out]; exact d0
      have d1' : wr.cell? ⟨by', oy + i, none⟩ = some (.int .u8 (bat (vbV z) i : Int)) := by rw [HWr.out]; exact d1
      generalize bat (vbV z) i = x at *
      have q2 : ((x : Int) == (x : Int)) = true := by simp
      clear d0 d1
      go_wp2_with fail
      go_quiet (fail)
      go_wp2_with fail
      go_roundw
      case rel => exact ⟨i + 1, _, by omega, rfl, by go_num, by unfold Hid; rw [HWr.out, World.drewN_drewN]⟩
      case measure => simp [intOf]; omega
    · obtain rfl : i = m := by omega
      have hlt2 : ¬ (i : Int) < (i : Int) := by omega
      have hbr : Below w2.heap.size w2 wr := by rw [HWr.out]; exact below_drewN (Below.refl _ _) _
      have HB3 := hid (HB2.out.trans (hbr.mono HB2.out.size))
      have HC3 := hid ((hbr.block P HPL2.out).trans HC2.out)
      have HPL3 := hid (Nat.lt_of_lt_of_le HPL2.out hbr.size)
      have HR := hid (read_any a1 c1 (vbV z) wr (ByR.mono (HX2.out.blocks (fun b hb => hbr.block b hb)) hbr.size) (vbV_256 z) (by have := HLEN.out; omega))
      have hrd : rdAll (vbV z) = some z := rdAll_all (by have h := rdV_fwd z [] HOK.out; rw [List.append_nil] at h; exact h)
      rw [hrd, ← HM.out] at HR
      clear hrd hbr HWr HB2 HC2 HPL2 HX2 HY2 q1
      go_wp2_with fail
      refine HR.out.mono ?_
      rintro e w4 ⟨hb4, v4, rfl, hp4⟩
      obtain ⟨l4, rfl, hl4, ha4⟩ := PVo.cells hp4
      have hq4 := hp4.q2
      have HSM := hid (smV_of (z := z) (by have := HLEN.out; omega))
      have HB4 := hid (HB3.out.trans (hb4.mono HB3.out.size))
      have HC4 := hid ((hb4.block P HPL3.out).trans HC3.out)
      obtain ⟨C, hC⟩ : ∃ C, C = w4.heap.size := ⟨_, rfl⟩
      have hPC : P < C := by have := HPL3.out; have := hb4.size; omega
      have hPC' : w.heap.size ≤ C := by rw [hC]; exact HB4.out.size
      obtain ⟨V2, hV2⟩ : ∃ V, V = w4.alloc (.cells #[.slice none 0 0, .slice none 0 0, .int .i64 0, .slice none 0 0, .slice none 0 0, .slice none 0 0, .slice none 0 0, .slice none 0 0, .slice none 0 0, .slice none 0 0, .slice none 0 0, .slice none 0 0] 30) := ⟨_, rfl⟩
      have hvc : V2.heap[C]? = some (.cells zvo.toArray 30 (0, 0)) := by rw [hV2, hC]; exact heap_alloc_new w4 _
      have hbv : Below C w4 V2 := by rw [hV2, hC]; exact (Below.refl _ _).alloc (Nat.le_refl _) _
      have hvs : V2.heap.size = C + 1 := by rw [hV2, hC]; simp
      obtain ⟨W5, hW5⟩ : ∃ W, W = V2.setRow C l4.toArray := ⟨_, rfl⟩
      have hc5 : W5.heap[C]? = some (.cells l4.toArray 30 (0, 0)) := by rw [hW5]; exact setRow_heap _ _ _ _ _ _ hvc
      have hb5 : Below C w4 W5 := by rw [hW5]; exact below_setRow hbv (Nat.le_refl _) _
      have hC5 : C < W5.heap.size := (Array.getElem?_eq_some_iff.1 hc5).1
      have hb5' : Below w4.heap.size w4 W5 := by rw [← hC]; exact hb5
      have HB5 := hid (HB4.out.trans (hb5'.mono HB4.out.size))
      have hp5 : W5.heap[P]? = some (.cells l.toArray 30 (0, 0)) := (hb5.block P hPC).trans HC4.out
      have HV := hid (vouchers_q HSM.out ((hq4.up hb5').mono hb5'.size) ((HQ.out.up HB5.out).mono HB5.out.size))
      have HVC := hid hvc
      have HP5 := hid hp5
      have HC5 := hid hc5
      have HV2 := hid hV2
      have HW5 := hid hW5
      have HCC := hid hC
      have HL4 := hid hl4
      have HA4 := hid ha4
      have HPC := hid hPC
      have HPC' := hid hPC'
      have HC5s := hid hC5
      clear hb4 hp4 hl4 ha4 hq4 hC hPC hPC' hV2 hvc hbv hvs hW5 hc5 hb5 hb5' hC5 hp5 HR HC3 HPL3 HB3
      go_wp2_with (first
        | (refine wpList_load_row rfl 30 _ rfl C rfl _ _ _ _ HC5.out Tryd.underlying30 rfl (by rw [List.size_toArray, HL4.out]; kernel_rfl) ?_)
        | (refine wpList_load_row rfl 30 _ rfl P rfl _ _ _ _ HP5.out Tryd.underlying30 rfl (by rw [List.size_toArray, HL.out]; kernel_rfl) ?_)
        | (rw [← HV2.out, ← HCC.out]; refine wpList_store_row rfl 30 _ _ rfl C l4.toArray rfl rfl _ _ HVC.out (by rw [List.size_toArray, HL4.out]; kernel_rfl) (by rw [List.size_toArray, List.size_toArray, HL4.out]; rfl) HA4.out ?_; rw [← HW5.out]))
      refine HV.out.mono ?_
      rintro e w6 ⟨rfl, hb6⟩
      have HB6 := hid (HB5.out.trans (hb6.mono HB5.out.size))
      have HC6 := hid ((hb6.block C HC5s.out).trans HC5.out)
      have HR := hid (read_any a c bs w6 (ByR.mono (HB.out.blocks (fun b hb => HB6.out.block b hb)) HB6.out.size) H2.out (by have := HSZ.out; omega))
      have HC6s := hid (Nat.lt_of_lt_of_le HC5s.out hb6.size)
      rw [← HN.out] at HR
      clear hb6 HV HV2 HW5 HVC HC5 HP5 HC4 HB4 HB5 HC5s HCC
      go_wp2_with fail
      refine HR.out.mono ?_
      rintro e w7 ⟨hb7, he⟩
      have HB7 := hid (HB6.out.trans (hb7.mono HB6.out.size))
      have HC7 := hid ((hb7.block C HC6s.out).trans HC6.out)
      cases hr : rdAll bs with
      | none =>
        rw [hr] at he
        have he' : e = .returned (.tuple #[.agg zvo.toArray, .iface 56 (.int .i64 5)]) := he
        subst he'
        obtain ⟨l7, hl7⟩ : ∃ l, l = zvo := ⟨_, rfl⟩
        have HL7 : Hid (l7.length = 12) := by unfold Hid; rw [hl7]; rfl
        have HA7 : Hid (l7.toArray.all (·.oneCell') = true) := by unfold Hid; rw [hl7]; simp [zvo, Value.oneCell']
        have HZV := hid hl7
        rw [← hl7]
        obtain ⟨W8, hW8⟩ : ∃ W, W = w7.setRow C l7.toArray := ⟨_, rfl⟩
        have hc8 : W8.heap[C]? = some (.cells l7.toArray 30 (0, 0)) := by rw [hW8]; exact setRow_heap _ _ _ _ _ _ HC7.out
        have hb8 : Below w.heap.size w W8 := by rw [hW8]; exact below_setRow HB7.out HPC'.out _
        have HF := hid (rfread_any a c bs W8 (ByR.mono (HB.out.blocks (fun b hb => hb8.block b hb)) hb8.size) H2.out HSZ.out)
        rw [hr, ← HN.out] at HF
        have HC8 := hid hc8
        have HB8 := hid hb8
        have HW8 := hid hW8
        have hC8 : C < W8.heap.size := (Array.getElem?_eq_some_iff.1 hc8).1
        have HC8s := hid hC8
        clear hb7 hr hW8 hc8 hb8 hC8 HR HC6 HC6s HB6 hl7
        go_wp2_with (refine wpList_store_row rfl 30 _ _ rfl C l7.toArray rfl rfl _ _ HC7.out (by rw [List.size_toArray, HL7.out]; kernel_rfl) (by rw [List.size_toArray, List.size_toArray, HL4.out, HL7.out]) HA7.out ?_; rw [← HW8.out])
        refine HF.out.mono ?_
        rintro e w9 ⟨hb9, he9⟩
        have he9' : e = .returned (.tuple #[.agg zvo.toArray, .bool false]) := he9
        subst he9'
        obtain ⟨l9, hl9⟩ : ∃ l, l = zvo := ⟨_, rfl⟩
        have HL9 : Hid (l9.length = 12) := by unfold Hid; rw [hl9]; rfl
        have HA9 : Hid (l9.toArray.all (·.oneCell') = true) := by unfold Hid; rw [hl9]; simp [zvo, Value.oneCell']
        have HZV9 := hid hl9
        rw [← hl9]
        obtain ⟨U, hU⟩ : ∃ U, U = w9.heap.size := ⟨_, rfl⟩
        obtain ⟨V9, hV9⟩ : ∃ V, V = w9.alloc (.cells #[.slice none 0 0, .slice none 0 0, .int .i64 0, .slice none 0 0, .slice none 0 0, .slice none 0 0, .slice none 0 0, .slice none 0 0, .slice none 0 0, .slice none 0 0, .slice none 0 0, .slice none 0 0] 30) := ⟨_, rfl⟩
        have hvc : V9.heap[U]? = some (.cells zvo.toArray 30 (0, 0)) := by rw [hV9, hU]; exact heap_alloc_new w9 _
        have hbv : Below U w9 V9 := by rw [hV9, hU]; exact (Below.refl _ _).alloc (Nat.le_refl _) _
        obtain ⟨X, hX⟩ : ∃ W, W = V9.setRow U l9.toArray := ⟨_, rfl⟩
        have hcx : X.heap[U]? = some (.cells l9.toArray 30 (0, 0)) := by rw [hX]; exact setRow_heap _ _ _ _ _ _ hvc
        have hbx : Below U w9 X := by rw [hX]; exact below_setRow hbv (Nat.le_refl _) _
        have hbx' : Below w9.heap.size w9 X := by rw [← hU]; exact hbx
        have hb8x : Below W8.heap.size W8 X := hb9.trans (hbx'.mono hb9.size)
        have HBX := hid (HB8.out.trans (hb8x.mono HB8.out.size))
        have hcC : X.heap[C]? = some (.cells l7.toArray 30 (0, 0)) := (hb8x.block C HC8s.out).trans HC8.out
        have hUX : U < X.heap.size := (Array.getElem?_eq_some_iff.1 hcx).1
        have hCX : C < X.heap.size := (Array.getElem?_eq_some_iff.1 hcC).1
        have HVV : Hid (∀ W, Below X.heap.size X W → Calls Tryd.prog 7 #[.agg l7.toArray, .agg l9.toArray] W fun e w' => e = .returned (.bool true) ∧ Below W.heap.size W w') := fun W _ => by
          rw [HZV.out, HZV9.out]
          exact vouchers_q smV_em (voq_em W) (voq_em W)
        have HER := hid (error_hit 5 5 X (HLD.out.below HBX.out))
        have HCX := hid hcx
        have HCC := hid hcC
        have HV9 := hid hV9
        have HX := hid hX
        have HVC := hid hvc
        have HUU := hid hU
        have HUX := hid hUX
        have HCXs := hid hCX
        clear hb9 hU hV9 hvc hbv hX hcx hbx hbx' hb8x hcC hUX hCX HF HW8 HC8 HC8s HB8 HC7 HB7 he9 hl9
        go_wp2_with (first
          | (rw [← HV9.out, ← HUU.out]; refine wpList_store_row rfl 30 _ _ rfl U l9.toArray rfl rfl _ _ HVC.out (by rw [List.size_toArray, HL9.out]; kernel_rfl) (by rw [List.size_toArray, List.size_toArray, HL9.out]; rfl) HA9.out ?_; rw [← HX.out]))
        refine HER.out.mono ?_
        rintro e wa ⟨rfl, hba⟩
        have HC1 := hid ((hba.block C HCXs.out).trans HCC.out)
        have HC2 := hid ((hba.block U HUX.out).trans HCX.out)
        have HVW := hid (HVV.out wa hba)
        have HBA := hid (HBX.out.trans (hba.mono HBX.out.size))
        clear hba HVV HCC HCX HX HV9 HVC HUU HER HBX HCXs HUX
        go_wp2_with (first
          | (refine wpList_load_row rfl 30 _ rfl C rfl _ _ _ _ HC1.out Tryd.underlying30 rfl (by rw [List.size_toArray, HL7.out]; kernel_rfl) ?_)
          | (refine wpList_load_row rfl 30 _ rfl U rfl _ _ _ _ HC2.out Tryd.underlying30 rfl (by rw [List.size_toArray, HL9.out]; kernel_rfl) ?_))
        refine HVW.out.mono ?_
        rintro e wb ⟨rfl, hbb⟩
        go_wp2_with fail
        go_ret
        exact ⟨rfl, HBA.out.trans (hbb.mono HBA.out.size)⟩
      | some zz =>
        rw [hr] at he
        obtain ⟨v7, rfl, hp7⟩ := he
        obtain ⟨l7, rfl, hl7, ha7⟩ := PVo.cells hp7
        have hbs : vbV zz = bs := by
          have h1 : rdV bs = some (zz, []) := by
            unfold rdAll at hr
            split at hr
            · rename_i z' h; injection hr with hr; subst hr; exact h
            · cases hr
          have := rdV_back bs zz [] H2.out h1
          rw [List.append_nil] at this
          exact this.symm
        have HL7 := hid hl7
        have HA7 := hid ha7
        obtain ⟨W8, hW8⟩ : ∃ W, W = w7.setRow C l7.toArray := ⟨_, rfl⟩
        have hc8 : W8.heap[C]? = some (.cells l7.toArray 30 (0, 0)) := by rw [hW8]; exact setRow_heap _ _ _ _ _ _ HC7.out
        have hb8 : Below w.heap.size w W8 := by rw [hW8]; exact below_setRow HB7.out HPC'.out _
        have hp8 : PVo W8 (.agg l7.toArray) zz := by rw [hW8]; exact hp7.ko (KO.oth HC7.out (by decide) (by decide) (by decide) (by simp) (fun b _ hb => setRow_other _ _ _ _ hb))
        have HQ8 := hid hp8.q2
        have HSZZ := hid (smV_of (z := zz) (by rw [hbs]; have := HSZ.out; omega))
        have HF := hid (rfread_any a c bs W8 (ByR.mono (HB.out.blocks (fun b hb => hb8.block b hb)) hb8.size) H2.out HSZ.out)
        rw [hr, ← HN.out] at HF
        have HC8 := hid hc8
        have HB8 := hid hb8
        have HW8 := hid hW8
        have hC8 : C < W8.heap.size := (Array.getElem?_eq_some_iff.1 hc8).1
        have HC8s := hid hC8
        clear hb7 hr hW8 hc8 hb8 hC8 HR HC6 HC6s HB6 hp7 hl7 ha7 hbs hp8
        go_wp2_with (refine wpList_store_row rfl 30 _ _ rfl C l7.toArray rfl rfl _ _ HC7.out (by rw [List.size_toArray, HL7.out]; kernel_rfl) (by rw [List.size_toArray, List.size_toArray, HL4.out, HL7.out]) HA7.out ?_; rw [← HW8.out])
        refine HF.out.mono ?_
        rintro e w9 ⟨hb9, v9, rfl, hp9⟩
        obtain ⟨l9, rfl, hl9, ha9⟩ := PVo.cells hp9
        have hq9 := hp9.q2
        have HL9 := hid hl9
        have HA9 := hid ha9
        obtain ⟨U, hU⟩ : ∃ U, U = w9.heap.size := ⟨_, rfl⟩
        obtain ⟨V9, hV9⟩ : ∃ V, V = w9.alloc (.cells #[.slice none 0 0, .slice none 0 0, .int .i64 0, .slice none 0 0, .slice none 0 0, .slice none 0 0, .slice none 0 0, .slice none 0 0, .slice none 0 0, .slice none 0 0, .slice none 0 0, .slice none 0 0] 30) := ⟨_, rfl⟩
        have hvc : V9.heap[U]? = some (.cells zvo.toArray 30 (0, 0)) := by rw [hV9, hU]; exact heap_alloc_new w9 _
        have hbv : Below U w9 V9 := by rw [hV9, hU]; exact (Below.refl _ _).alloc (Nat.le_refl _) _
        obtain ⟨X, hX⟩ : ∃ W, W = V9.setRow U l9.toArray := ⟨_, rfl⟩
        have hcx : X.heap[U]? = some (.cells l9.toArray 30 (0, 0)) := by rw [hX]; exact setRow_heap _ _ _ _ _ _ hvc
        have hbx : Below U w9 X := by rw [hX]; exact below_setRow hbv (Nat.le_refl _) _
        have hbx' : Below w9.heap.size w9 X := by rw [← hU]; exact hbx
        have hb8x : Below W8.heap.size W8 X := hb9.trans (hbx'.mono hb9.size)
        have HBX := hid (HB8.out.trans (hb8x.mono HB8.out.size))
        have hcC : X.heap[C]? = some (.cells l7.toArray 30 (0, 0)) := (hb8x.block C HC8s.out).trans HC8.out
        have hUX : U < X.heap.size := (Array.getElem?_eq_some_iff.1 hcx).1
        have hCX : C < X.heap.size := (Array.getElem?_eq_some_iff.1 hcC).1
        have HVV : Hid (∀ W, Below X.heap.size X W → Calls Tryd.prog 7 #[.agg l7.toArray, .agg l9.toArray] W fun e w' => e = .returned (.bool true) ∧ Below W.heap.size W w') := fun W h =>
          vouchers_q HSZZ.out ((((HQ8.out.up hb8x).mono hb8x.size).up h).mono h.size) ((((hq9.up hbx').mono hbx'.size).up h).mono h.size)
        have HER := hid (error_nil 0 X)
        have HCX := hid hcx
        have HCC := hid hcC
        have HV9 := hid hV9
        have HX := hid hX
        have HVC := hid hvc
        have HUU := hid hU
        have HUX := hid hUX
        have HCXs := hid hCX
        clear hb9 hU hV9 hvc hbv hX hcx hbx hbx' hb8x hcC hUX hCX HF HW8 HC8 HC8s HB8 HC7 HB7 hp9 hl9 ha9 hq9 HQ8
        go_wp2_with (first
          | (rw [← HV9.out, ← HUU.out]; refine wpList_store_row rfl 30 _ _ rfl U l9.toArray rfl rfl _ _ HVC.out (by rw [List.size_toArray, HL9.out]; kernel_rfl) (by rw [List.size_toArray, List.size_toArray, HL9.out]; rfl) HA9.out ?_; rw [← HX.out]))
        refine HER.out.mono ?_
        rintro e wa ⟨rfl, hba0⟩
        have hba : Below X.heap.size X wa := by rw [hba0]; exact Below.refl _ _
        clear hba0
        have HC1 := hid ((hba.block C HCXs.out).trans HCC.out)
        have HC2 := hid ((hba.block U HUX.out).trans HCX.out)
        have HVW := hid (HVV.out wa hba)
        have HBA := hid (HBX.out.trans (hba.mono HBX.out.size))
        clear hba HVV HCC HCX HX HV9 HVC HUU HER HBX HCXs HUX
        go_wp2_with (first
          | (refine wpList_load_row rfl 30 _ rfl C rfl _ _ _ _ HC1.out Tryd.underlying30 rfl (by rw [List.size_toArray, HL7.out]; kernel_rfl) ?_)
          | (refine wpList_load_row rfl 30 _ rfl U rfl _ _ _ _ HC2.out Tryd.underlying30 rfl (by rw [List.size_toArray, HL9.out]; kernel_rfl) ?_))
        refine HVW.out.mono ?_
        rintro e wb ⟨rfl, hbb⟩
        go_wp2_with fail
        go_ret
        exact ⟨rfl, HBA.out.trans (hbb.mono HBA.out.size)⟩

end Go.Proofs.YtcajofdmadpmoaaDoor
