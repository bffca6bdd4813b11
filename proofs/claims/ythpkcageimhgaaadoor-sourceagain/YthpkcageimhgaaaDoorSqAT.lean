/- Package source: a function as a line. Package source: a program written. -/
import Derived.Test.YthpkcageimhgaaaDoorSqAS
import Derived.Test.YthpkcageimhgaaaDoorSqAM
namespace Go.Proofs.YthpkcageimhgaaaDoor
open Go.RowKit

/-- the names in brackets, by their places -/
def nmF (ms : List (List UInt8 × Nat)) (i : Nat) : List UInt8 := match ms[i]? with | some x => x.1 | none => []

set_option maxRecDepth 100000 in
set_option maxHeartbeats 2000000 in
theorem pnames_any (S : ByteArray) (at' : Int) (lo m c : Nat) (av : Option Addr) (pv : Value) (ms : List (List UInt8 × Nat)) (w : World) (hN : NmR lo w av ms) (hmm : m = ms.length) (hm : m ≤ 4000) :
    Calls Tryd.prog 17 #[.agg #[.string S, .int .i64 at', .slice av m c, pv]] w fun e w' => ∃ K, e = .returned (.slice (some ⟨K, 0, none⟩) m m) ∧ w'.rowIs K 9 m (stV (nmF ms) m) ∧ Below w.heap.size w w' := by
  obtain ⟨V, hV⟩ : ∃ V, V = w.alloc (.cells #[.string S, .int .i64 at', .slice av m c, pv] 40) := ⟨_, rfl⟩
  obtain ⟨W0, hW0⟩ : ∃ W0, W0 = V.alloc (.cells (madeCells #[.string ⟨#[]⟩] m) 9) := ⟨_, rfl⟩
  have b1 : Below w.heap.size w V := by rw [hV]; exact (Below.refl _ _).alloc (Nat.le_refl _) _
  have hVs : V.heap.size = w.heap.size + 1 := by rw [hV]; simp
  have b2 : Below V.heap.size V W0 := by rw [hW0]; exact (Below.refl _ _).alloc (Nat.le_refl _) _
  have HB0 := hid (b1.trans (b2.mono b1.size))
  have hv : V.heap[w.heap.size]? = some (.cells #[.string S, .int .i64 at', .slice av m c, pv] 40 (0, 0)) := by rw [hV]; exact heap_alloc_new w _
  have e2 : V.cell? ⟨w.heap.size, 2, none⟩ = some (.slice av m c) := by simp [World.cell?, hv]
  have e2' : W0.cell? ⟨w.heap.size, 2, none⟩ = some (.slice av m c) := (b2.cell (p := ⟨w.heap.size, 2, none⟩) (World.block_lt_of_cell? _ _ e2)).trans e2
  have HR0 : Hid (W0.rowIs V.heap.size 9 m (stV (nmF ms) 0)) := by
    unfold Hid
    rw [hW0]
    exact (World.rowIs_made V _ m _).congr (fun i _ => by unfold stV; rw [if_neg (by omega)])
  have hSI : (Tryd.prog.info? 9).map (fun i => (i.zero, i.size, i.bytes)) = some (some (.string ⟨#[]⟩), 1, 16) := by kernel_rfl
  obtain ⟨i0, hi, hz0, hz1, hz2⟩ := info_parts hSI
  have HN := hid hN
  have HM := hid hmm
  obtain ⟨K0, hK0⟩ : ∃ K0, K0 = V.heap.size := ⟨_, rfl⟩
  rw [← hK0] at HR0
  have HK0 : Hid (w.heap.size ≤ K0) := by unfold Hid; rw [hK0]; exact b1.size
  have HKV := hid hK0
  clear hN hmm hSI b1 b2 hv hK0
  rw [hVs] at HKV
  rw [hV] at hW0
  go_enter Tryd.func17, Tryd.ntmps17
  go_wp2_with (refine wpList_make_row _ rfl _ _ _ rfl 9 i0 (.string ⟨#[]⟩) Tryd.underlying57 hi hz0 hz1 rfl .i64 .i64 m rfl rfl (by rw [hz2]; omega) (by omega) ?_)
  rw [← hW0, ← HKV.out]
  clear e2 e2' hW0 hVs hV V HKV
  go_loopw [4, 5, 13] (fun _ _ iv wr => ∃ (k : Nat), k ≤ m ∧ iv = .int .i64 k ∧ Hid (wr.rowIs K0 9 m (stV (nmF ms) k)) ∧ Hid (Below w.heap.size w wr)) (fun _ _ iv _ => m - (intOf iv).toNat)
  case atStart => exact ⟨0, Nat.zero_le _, rfl, HR0, HB0⟩
  case round =>
    obtain ⟨k, hk, rfl, hR, hbel⟩ := hrel
    by_cases hlt : k < m
    · have hlt2 : (k : Int) < (m : Int) := by omega
      have hks : IntKind.i64.wrap ((k : Int) + 1) = (k : Int) + 1 := by rw [IntKind.wrap_i64]; omega
      obtain ⟨x, hx⟩ : ∃ x, ms[k]? = some x := ⟨_, List.getElem?_eq_getElem (by have := HM.out; omega)⟩
      obtain ⟨g, rfl, _, d0, d1⟩ := HN.out k x hx
      have c0 := (hbel.out.cell (p := ⟨g, k * 2, none⟩) (World.block_lt_of_cell? _ _ d0)).trans d0
      have c1 := (hbel.out.cell (p := ⟨g, k * 2 + 1, none⟩) (World.block_lt_of_cell? _ _ d1)).trans d1
      have hRA := hR.out.alloc (.cells #[.string (bs x.1), .int .i64 (x.2 : Int)] 36)
      have r1 := hRA.cell (i := k) hlt
      have r2 := hRA.frozen k
      have HR2 : Hid (((wr.alloc (.cells #[.string (bs x.1), .int .i64 (x.2 : Int)] 36)).setCell ⟨K0, k, none⟩ (.string (bs x.1))).rowIs K0 9 m (stV (nmF ms) (k + 1))) := (hRA.set k (.string (bs x.1))).congr (fun i _ => by
        by_cases e : i = k
        · rw [if_pos e, e]; unfold stV nmF; rw [if_pos (by omega), hx]
        · rw [if_neg e]; unfold stV
          by_cases e2 : i < k
          · rw [if_pos e2, if_pos (by omega)]
          · rw [if_neg e2, if_neg (by omega)])
      have HB2 : Hid (Below w.heap.size w ((wr.alloc (.cells #[.string (bs x.1), .int .i64 (x.2 : Int)] 36)).setCell ⟨K0, k, none⟩ (.string (bs x.1)))) := by
        have h1 := hbel.out.trans (((Below.refl _ wr).alloc (Nat.le_refl _) (.cells #[.string (bs x.1), .int .i64 (x.2 : Int)] 36)).mono hbel.out.size)
        exact ⟨h1.os, h1.tape, h1.output, by simpa [World.setCell] using h1.size, fun j hj => (Below.heap_setCell _ _ _ _ (by show j ≠ K0; have := HK0.out; omega)).trans (h1.block j hj)⟩
      unfold stV at r1
      clear d0 d1 hx hRA hR hbel
      go_wp2_with fail
      go_roundw
      case rel => exact ⟨k + 1, by omega, by go_num, HR2, HB2⟩
      case measure => simp [intOf]; omega
    · obtain rfl : k = m := by omega
      have hlt2 : ¬ (k : Int) < (k : Int) := by omega
      go_wp2_with fail
      go_ret
      exact ⟨K0, rfl, hR.out, hbel.out⟩

set_option maxRecDepth 100000 in
set_option maxHeartbeats 2000000 in
theorem pline_any (it : Nat → List UInt8) (Ctx : World → Prop) (hit : ∀ n, n ≤ 9223372036854775807 → (it n).length ≤ 20) (hCx : ∀ W W', Ctx W → Below W.heap.size W W' → Ctx W') (hIt : ∀ (n : Nat) (W : World), n ≤ 9223372036854775807 → Ctx W → Calls Tryd.prog 29 #[.int .i64 (n : Int)] W fun e w' => e = .returned (.string (bs (it n))) ∧ Below W.heap.size W w')
    (lo c p : Nat) (av : Option Addr) (g : FnT) (w : World) (hC : Ctx w) (hN : NmR lo w av g.more) (hB : PT lo w g.body (.pointer (some ⟨p, 0, none⟩))) (hW : FW g) (hf : fsz g ≤ 1000000) :
    Calls Tryd.prog 9 #[.agg #[.string (bs g.name), .int .i64 (g.at' : Int), .slice av g.more.length c, .pointer (some ⟨p, 0, none⟩)]] w fun e w' => e = .returned (.string (bs (lnF it g))) ∧ Below w.heap.size w w' := by
  have htz : tsz g.body ≤ 1000000 := by unfold fsz at hf; omega
  have hml := hW.2.2.1
  obtain ⟨W0, hW0⟩ : ∃ W0, W0 = w.alloc (.cells #[.string (bs g.name), .int .i64 (g.at' : Int), .slice av g.more.length c, .pointer (some ⟨p, 0, none⟩)] 40) := ⟨_, rfl⟩
  have b0 : Below w.heap.size w W0 := by rw [hW0]; exact (Below.refl _ _).alloc (Nat.le_refl _) _
  have hv : W0.heap[w.heap.size]? = some (.cells #[.string (bs g.name), .int .i64 (g.at' : Int), .slice av g.more.length c, .pointer (some ⟨p, 0, none⟩)] 40 (0, 0)) := by rw [hW0]; exact heap_alloc_new w _
  have HNM : Hid (∀ W, Below W0.heap.size W0 W → Calls Tryd.prog 17 #[.agg #[.string (bs g.name), .int .i64 (g.at' : Int), .slice av g.more.length c, .pointer (some ⟨p, 0, none⟩)]] W fun e w' => ∃ K, e = .returned (.slice (some ⟨K, 0, none⟩) g.more.length g.more.length) ∧ w'.rowIs K 9 g.more.length (stV (nmF g.more) g.more.length) ∧ Below W0.heap.size W0 w') := fun W h => by
    have h2 := b0.trans (h.mono b0.size)
    exact (pnames_any (bs g.name) g.at' lo g.more.length c av _ g.more W (NmB.keep hN fun b hb hl => ⟨hb, h2.block b hl⟩) rfl hml).mono fun e w' ⟨K, k1, k2, k3⟩ => ⟨K, k1, k2, h.trans (k3.mono h.size)⟩
  have hjl : (jnF (nmF g.more) g.more.length).length ≤ 80000 := by
    have := nmC_len g.more (fun x hx => (hW.2.1 x hx).2.1) g.more.length
    rw [nmC_F] at this
    have e : (jnF (nmF g.more) g.more.length).length ≤ 18 * g.more.length := this
    omega
  have HJN : Hid (∀ (K : Nat) (W : World), W.rowIs K 9 g.more.length (stV (nmF g.more) g.more.length) → Below W0.heap.size W0 W → Calls Tryd.prog 16 #[.slice (some ⟨K, 0, none⟩) g.more.length g.more.length, .string ⟨#[44, 32]⟩] W fun e w' => e = .returned (.string (bs (jnF (nmF g.more) g.more.length))) ∧ Below W0.heap.size W0 w') := fun K W hR h =>
    (pjoin_any _ K g.more.length W hml hR (by omega)).mono fun e w' ⟨h1, h2⟩ => ⟨h1, h.trans (h2.mono h.size)⟩
  have HTX : Hid (∀ W, Below W0.heap.size W0 W → Calls Tryd.prog 18 #[.pointer (some ⟨p, 0, none⟩)] W fun e w' => e = .returned (.string (bs (inT it g.body))) ∧ Below W0.heap.size W0 w') := fun W h => by
    have h2 := b0.trans (h.mono b0.size)
    exact (ptx_all it Ctx (fun b => lo ≤ b) hit hCx hIt 1000000 (Nat.le_refl _) g.body _ W htz hW.2.2.2 (hCx _ _ hC h2) (PTB.keep (fun b hb hl => ⟨hb, h2.block b hl⟩) _ _ hB)).mono fun e w' ⟨k1, k2⟩ => ⟨k1, h.trans (k2.mono h.size)⟩
  have HE : Hid (bs (lnF it g) = (⟨#[102, 110, 32]⟩ : ByteArray) ++ bs g.name ++ (⟨#[40]⟩ : ByteArray) ++ bs (jnF (nmF g.more) g.more.length) ++ (⟨#[41, 32, 61, 32]⟩ : ByteArray) ++ bs (inT it g.body) ++ (⟨#[10]⟩ : ByteArray)) := by
    unfold Hid lnF
    rw [nmC_F]
    simp only [← bs_app]
    rfl
  have hnz : (bs g.name).size ≤ 16 := by rw [bs_size]; exact hW.1.2.1
  have hjz : (bs (jnF (nmF g.more) g.more.length)).size ≤ 80000 := by rw [bs_size]; exact hjl
  have htl : (bs (inT it g.body)).size ≤ 44000000 := by
    rw [bs_size]
    have := inT_len it hit g.body hW.2.2.2
    omega
  have HKE : Hid (∀ W, Below W0.heap.size W0 W → W.cell? ⟨w.heap.size, 0, none⟩ = some (.string (bs g.name)) ∧ W.cell? ⟨w.heap.size, 1, none⟩ = some (.int .i64 (g.at' : Int)) ∧ W.cell? ⟨w.heap.size, 2, none⟩ = some (.slice av g.more.length c) ∧ W.cell? ⟨w.heap.size, 3, none⟩ = some (.pointer (some ⟨p, 0, none⟩))) := fun W h => by
    have hb := (h.block w.heap.size (Array.getElem?_eq_some_iff.1 hv).1).trans hv
    exact ⟨by simp [World.cell?, hb], by simp [World.cell?, hb], by simp [World.cell?, hb], by simp [World.cell?, hb]⟩
  have HB0 := hid b0
  generalize bs (lnF it g) = RES at *
  generalize bs (jnF (nmF g.more) g.more.length) = SJ at *
  generalize bs (inT it g.body) = SB at *
  generalize stV (nmF g.more) g.more.length = FS at *
  generalize g.more.length = m at *
  generalize bs g.name = ns at *
  generalize (g.at' : Int) = at' at *
  have z1 : ¬ 9223372036854775807 < 3 + ns.size := by omega
  have z2 : ¬ 9223372036854775807 < 3 + ns.size + 1 := by omega
  have z3 : ¬ 9223372036854775807 < 3 + ns.size + 1 + SJ.size := by omega
  have z4 : ¬ 9223372036854775807 < 3 + ns.size + 1 + SJ.size + 4 := by omega
  have z5 : ¬ 9223372036854775807 < 3 + ns.size + 1 + SJ.size + 4 + SB.size := by omega
  have z6 : ¬ 9223372036854775807 < 3 + ns.size + 1 + SJ.size + 4 + SB.size + 1 := by omega
  have hd1 : Below W0.heap.size W0 W0.drew := (Below.refl _ _).drew
  clear hN hB hW hf htz hml b0 hv hC hjl hnz hjz htl
  go_enter Tryd.func9, Tryd.ntmps9
  go_wp2_with fail
  rw [← hW0]
  clear hW0
  go_region_held3 (fun W => W.cell? ⟨w.heap.size, 0, none⟩ = some (.string ns) ∧ W.cell? ⟨w.heap.size, 1, none⟩ = some (.int .i64 at') ∧ W.cell? ⟨w.heap.size, 2, none⟩ = some (.slice av m c) ∧ W.cell? ⟨w.heap.size, 3, none⟩ = some (.pointer (some ⟨p, 0, none⟩))) (exact HKE.out _ (by assumption))
    (first
      | (go_at_call 17; refine (HNM.out _ (by assumption)).mono ?_; rintro e w1 ⟨K, rfl, hR1, hb1⟩)
      | (go_at_call 16; refine (HJN.out _ _ hR1 (by assumption)).mono ?_; rintro e w2 ⟨rfl, hb2⟩)
      | (go_at_call 18; refine (HTX.out _ (by assumption)).mono ?_; rintro e w3 ⟨rfl, hb3⟩))
  have HBZ := hid (HB0.out.trans (hb3.mono HB0.out.size))
  go_wp2_with fail
  go_ret
  exact ⟨by rw [HE.out]; rfl, HBZ.out⟩

end Go.Proofs.YthpkcageimhgaaaDoor

namespace Go.Proofs.YthpkcageimhgaaaDoor
open Go.RowKit

theorem bld_keep {T e : TypeId} {B b : Nat} {p : Value} {l : List Value} {w w' : World} (h : Lib.BuilderAt T e B b p l w) (hb : Below w.heap.size w w') : Lib.BuilderAt T e B b p l w' := by
  have hlt := h.lt
  obtain ⟨h1, v, h2, h3, h4⟩ := h
  refine ⟨h1, v, (hb.block b hlt).trans h2, World.ownsRow.kept (row := none) h3 ⟨hb.os, hb.tape, hb.output, hb.size, fun k hk _ => hb.block k hk⟩ (by cases v.ownBlock <;> simp), h4⟩
theorem isb_keep {T e : TypeId} {B b : Nat} {l : List Value} {w w' : World} (h : Lib.IsBuilder T e B b l w) (hb : Below w.heap.size w w') : Lib.IsBuilder T e B b l w' := by
  rcases h with h | h
  · exact .inl (bld_keep h hb)
  · exact .inr (bld_keep h hb)
theorem bs_cells (l : List UInt8) : Lib.strCells (bs l) = Lib.byteCells l := by simp [Lib.strCells_eq, bs]

set_option maxRecDepth 100000 in
set_option maxHeartbeats 2000000 in
theorem pprint_any (it : Nat → List UInt8) (Ctx : World → Prop) (hit : ∀ n, n ≤ 9223372036854775807 → (it n).length ≤ 20) (hCx : ∀ W W', Ctx W → Below W.heap.size W W' → Ctx W') (hIt : ∀ (n : Nat) (W : World), n ≤ 9223372036854775807 → Ctx W → Calls Tryd.prog 29 #[.int .i64 (n : Int)] W fun e w' => e = .returned (.string (bs (it n))) ∧ Below W.heap.size W w')
    (lo p : Nat) (fs : List FnT) (w : World) (hC : Ctx w) (hP : PgAt lo w p fs) (hW : ∀ g, g ∈ fs → FW g) (hl4 : fs.length ≤ 4000) (hp : pwgt fs ≤ 1000000) :
    Calls Tryd.prog 5 #[.pointer (some ⟨p, 0, none⟩)] w fun e w' => e = .returned (.string (bs (prP it fs fs.length))) ∧ Below w.heap.size w w' := by
  obtain ⟨a, c, B, hpp, _, _, hcc, hF, _⟩ := hP
  have HPL := hid (prP_len it hit fs hW)
  have HLN : Hid (∀ W, Below w.heap.size w W → ∀ (k : Nat) (g : FnT), fs[k]? = some g → ∃ kb a2 c2 b, a = some ⟨kb, 0, none⟩ ∧ W.cell? ⟨kb, k * 4, none⟩ = some (.string (bs g.name)) ∧ W.cell? ⟨kb, k * 4 + 1, none⟩ = some (.int .i64 (g.at' : Int)) ∧ W.cell? ⟨kb, k * 4 + 2, none⟩ = some (.slice a2 g.more.length c2) ∧ W.cell? ⟨kb, k * 4 + 3, none⟩ = some (.pointer (some ⟨b, 0, none⟩)) ∧
      ∀ W', Below W.heap.size W W' → Calls Tryd.prog 9 #[.agg #[.string (bs g.name), .int .i64 (g.at' : Int), .slice a2 g.more.length c2, .pointer (some ⟨b, 0, none⟩)]] W' fun e w' => e = .returned (.string (bs (lnF it g))) ∧ Below W'.heap.size W' w') := fun W hWb k g hg => by
    obtain ⟨kb, a2, c2, b, h1, _, d0, d1, d2, d3, hn, hb⟩ := hF k g hg
    have hl := World.block_lt_of_cell? _ _ d0
    refine ⟨kb, a2, c2, b, h1, (hWb.cell (p := ⟨kb, k * 4, none⟩) hl).trans d0, (hWb.cell (p := ⟨kb, k * 4 + 1, none⟩) hl).trans d1, (hWb.cell (p := ⟨kb, k * 4 + 2, none⟩) hl).trans d2, (hWb.cell (p := ⟨kb, k * 4 + 3, none⟩) hl).trans d3, fun W' hW' => ?_⟩
    have hbb := hWb.trans (hW'.mono hWb.size)
    have hgm := List.mem_of_getElem? hg
    exact pline_any it Ctx hit hCx hIt lo c2 b a2 g W' (hCx _ _ hC hbb) (NmB.keep hn fun x hx hxl => ⟨hx, hbb.block x hxl⟩) (PTB.keep (fun x hx hxl => ⟨hx, hbb.block x hxl⟩) _ _ hb) (hW g hgm) (by have := pwgt_mem hgm; omega)
  have HSN : Hid (∀ (k : Nat) (g : FnT), fs[k]? = some g → prP it fs (k + 1) = prP it fs k ++ lnF it g) := fun k g hg => by rw [prP, hg]
  have HPW := hid hp
  obtain ⟨n, hn⟩ : ∃ n, n = fs.length := ⟨_, rfl⟩
  rw [← hn] at hpp hl4 ⊢
  have HN := hid hn
  have p0 : w.cell? ⟨p, 0, none⟩ = some (.slice a n c) := by simp [World.cell?, hpp]
  obtain ⟨V, hV⟩ : ∃ V, V = w.alloc (.cells #[.pointer none, .slice none 0 0] 46) := ⟨_, rfl⟩
  have bV : Below w.heap.size w V := by rw [hV]; exact (Below.refl _ _).alloc (Nat.le_refl _) _
  have p0' : V.cell? ⟨p, 0, none⟩ = some (.slice a n c) := (bV.cell (p := ⟨p, 0, none⟩) (World.block_lt_of_cell? _ _ p0)).trans p0
  have HI0 : Hid (Lib.IsBuilder 46 5 w.heap.size w.heap.size (Lib.byteCells (prP it fs 0)) V) := by
    unfold Hid
    rw [hV]
    exact Lib.fresh_isBuilder _ _ w
  have HB0 := hid bV
  obtain ⟨b0, hb0⟩ : ∃ b0, b0 = w.heap.size := ⟨_, rfl⟩
  have HBB := hid hb0
  rw [← hb0] at HI0
  rw [hV] at p0'
  clear hpp hcc hF hn bV hit hCx hIt hC hW hp hb0
  go_enter Tryd.func5, Tryd.ntmps5
  go_wp2_with fail
  rw [← hV, ← HBB.out]
  clear p0 p0' hV
  go_loopw [5, 11] (fun _ iv wr => ∃ (k : Nat), k ≤ n ∧ iv = .int .i64 k ∧ Hid (Lib.IsBuilder 46 5 b0 b0 (Lib.byteCells (prP it fs k)) wr) ∧ Hid (Below w.heap.size w wr)) (fun _ iv _ => n - (intOf iv).toNat)
  case atStart => exact ⟨0, Nat.zero_le _, rfl, HI0, HB0⟩
  case round =>
    obtain ⟨k, hk, rfl, HI, HB⟩ := hrel
    by_cases hlt : k < n
    · have hlt2 : (k : Int) < (n : Int) := by omega
      have hks : IntKind.i64.wrap ((k : Int) + 1) = (k : Int) + 1 := by rw [IntKind.wrap_i64]; omega
      obtain ⟨g, hg⟩ : ∃ g, fs[k]? = some g := ⟨_, List.getElem?_eq_getElem (by have := HN.out; omega)⟩
      obtain ⟨kb, a2, c2, b, rfl, c0, c1, c2', c3, hLN⟩ := HLN.out wr HB.out k g hg
      have HSS := hid (HSN.out k g hg)
      have HLL := hid hLN
      have HZ1 : Hid ((prP it fs k).length + (lnF it g).length ≤ 69000000) := by
        unfold Hid
        have h1 := HPL.out (k + 1)
        have h2 := (pwgt_take hg).2
        have h3 := HPW.out
        rw [HSS.out, List.length_append] at h1
        omega
      obtain ⟨W1, hW1⟩ : ∃ W1, W1 = wr.alloc (.cells #[.string (bs g.name), .int .i64 (g.at' : Int), .slice a2 g.more.length c2, .pointer (some ⟨b, 0, none⟩)] 40) := ⟨_, rfl⟩
      have hb1 : Below wr.heap.size wr W1 := by rw [hW1]; exact (Below.refl _ _).alloc (Nat.le_refl _) _
      have HI1 := hid (isb_keep HI.out hb1)
      have HB1 := hid (HB.out.trans (hb1.mono HB.out.size))
      have HL1 := hid (HLL.out W1 hb1)
      clear hLN HLL hg hb1 HI
      go_wp2_with fail
      rw [← hW1]
      clear hW1 c0 c1 c2' c3
      refine HL1.out.mono ?_
      rintro e w2 ⟨rfl, hb2⟩
      have HI2 := isb_keep HI1.out hb2
      have hB2 := HB1.out.trans (hb2.mono HB1.out.size)
      have HWS := hid (Tryd.Builder_WriteString b0 b0 (Lib.byteCells (prP it fs k)) (bs (lnF it g)) w2 HI2 (by rw [Lib.byteCells_length, bs_size]; have := HZ1.out; omega) (by rw [HBB.out]; exact hB2.size))
      have HB2 := hid hB2
      have HNX : Hid (Lib.byteCells (prP it fs k) ++ Lib.strCells (bs (lnF it g)) = Lib.byteCells (prP it fs (k + 1))) := by
        unfold Hid
        rw [HSS.out, bs_cells, Lib.byteCells_append]
      clear hb2 HI2 hB2 HL1 HI1 HB1
      generalize bs (lnF it g) = S at *
      go_wp2_with fail
      refine HWS.out.mono ?_
      rintro e w3 ⟨rfl, hbl, hb3⟩
      have HI3 : Hid (Lib.IsBuilder 46 5 b0 b0 (Lib.byteCells (prP it fs (k + 1))) w3) := .inr (by rw [HNX.out] at hbl; exact hbl)
      have HB3 : Hid (Below w.heap.size w w3) := HB2.out.trans (by rw [HBB.out] at hb3; exact hb3)
      clear hbl hb3 HWS
      go_wp2_with fail
      go_roundw
      case rel => exact ⟨k + 1, by omega, by go_num, HI3, HB3⟩
      case measure => simp [intOf]; omega
    · obtain rfl : k = n := by omega
      have hlt2 : ¬ (k : Int) < (k : Int) := by omega
      have HST := hid (Tryd.Builder_String_any b0 b0 (prP it fs k) wr HI.out (by rw [HBB.out]; exact HB.out.size))
      go_wp2_with fail
      refine HST.out.mono ?_
      rintro e w2 ⟨rfl, hb2⟩
      have HB2 : Hid (Below w.heap.size w w2) := HB.out.trans (by rw [HBB.out] at hb2; exact hb2)
      clear hb2
      go_wp2_with fail
      go_ret
      exact ⟨rfl, HB2.out⟩

end Go.Proofs.YthpkcageimhgaaaDoor
