/- Package source: a function as a line. Package source: a program written. Programs as text: how numbers are written. Package source: all parts of an expression gone through, with what each round keeps. -/
import Derived.Test.YthemehdcakimgaiGreatDoorBgBG
import Derived.Lib.ItoaLen
import Derived.Test.YthemehdcakimgaiGreatDoorSrZ
namespace Go.Proofs.YthemehdcakimgaiGreatDoor
open Go.RowKit

/-- the names in brackets, by their places -/
def nmF (ms : List (List UInt8 × Nat)) (i : Nat) : List UInt8 := match ms[i]? with | some x => x.1 | none => []

set_option maxRecDepth 100000 in
set_option maxHeartbeats 2000000 in
theorem pnames_any (S : ByteArray) (at' : Int) (lo m c : Nat) (av : Option Addr) (pv : Value) (ms : List (List UInt8 × Nat)) (w : World) (hN : NmR lo w av ms) (hmm : m = ms.length) (hm : m ≤ 4000) :
    Calls Tryz.prog 40 #[.agg #[.string S, .int .i64 at', .slice av m c, pv]] w fun e w' => ∃ K, e = .returned (.slice (some ⟨K, 0, none⟩) m m) ∧ w'.rowIs K 9 m (stV (nmF ms) m) ∧ Below w.heap.size w w' := by
  obtain ⟨V, hV⟩ : ∃ V, V = w.alloc (.cells #[.string S, .int .i64 at', .slice av m c, pv] 54) := ⟨_, rfl⟩
  obtain ⟨W0, hW0⟩ : ∃ W0, W0 = V.alloc (.cells (madeCells #[.string ⟨#[]⟩] m) 9) := ⟨_, rfl⟩
  have b1 : Below w.heap.size w V := by rw [hV]; exact (Below.refl _ _).alloc (Nat.le_refl _) _
  have hVs : V.heap.size = w.heap.size + 1 := by rw [hV]; simp
  have b2 : Below V.heap.size V W0 := by rw [hW0]; exact (Below.refl _ _).alloc (Nat.le_refl _) _
  have HB0 := hid (b1.trans (b2.mono b1.size))
  have hv : V.heap[w.heap.size]? = some (.cells #[.string S, .int .i64 at', .slice av m c, pv] 54 (0, 0)) := by rw [hV]; exact heap_alloc_new w _
  have e2 : V.cell? ⟨w.heap.size, 2, none⟩ = some (.slice av m c) := by simp [World.cell?, hv]
  have e2' : W0.cell? ⟨w.heap.size, 2, none⟩ = some (.slice av m c) := (b2.cell (p := ⟨w.heap.size, 2, none⟩) (World.block_lt_of_cell? _ _ e2)).trans e2
  have HR0 : Hid (W0.rowIs V.heap.size 9 m (stV (nmF ms) 0)) := by
    unfold Hid
    rw [hW0]
    exact (World.rowIs_made V _ m _).congr (fun i _ => by unfold stV; rw [if_neg (by omega)])
  have hSI : (Tryz.prog.info? 9).map (fun i => (i.zero, i.size, i.bytes)) = some (some (.string ⟨#[]⟩), 1, 16) := by kernel_rfl
  obtain ⟨i0, hi, hz0, hz1, hz2⟩ := info_parts hSI
  have HN := hid hN
  have HM := hid hmm
  obtain ⟨K0, hK0⟩ : ∃ K0, K0 = V.heap.size := ⟨_, rfl⟩
  rw [← hK0] at HR0
  have HK0 : Hid (w.heap.size ≤ K0) := by unfold Hid; rw [hK0]; exact b1.size
  have HKV := hid hK0
  clear hN hmm hSI b1 b2 hv hK0
  rw [hVs] at HKV
  rw [hV] at hW0
  go_enter Tryz.func40, Tryz.ntmps40
  go_wp2_with (refine wpList_make_row _ rfl _ _ _ rfl 9 i0 (.string ⟨#[]⟩) Tryz.underlying37 hi hz0 hz1 rfl .i64 .i64 m rfl rfl (by rw [hz2]; omega) (by omega) ?_)
  rw [← hW0, ← HKV.out]
  clear e2 e2' hW0 hVs hV V HKV
  go_loopw [4, 5, 13] (fun _ _ iv wr => ∃ (k : Nat), k ≤ m ∧ iv = .int .i64 k ∧ Hid (wr.rowIs K0 9 m (stV (nmF ms) k)) ∧ Hid (Below w.heap.size w wr)) (fun _ _ iv _ => m - (intOf iv).toNat)
  case atStart => exact ⟨0, Nat.zero_le _, rfl, HR0, HB0⟩
  case round =>
    obtain ⟨k, hk, rfl, hR, hbel⟩ := hrel
    by_cases hlt : k < m
    · have hlt2 : (k : Int) < (m : Int) := by omega
      have hks : IntKind.i64.wrap ((k : Int) + 1) = (k : Int) + 1 := by rw [IntKind.wrap_i64]; omega
      obtain ⟨x, hx⟩ : ∃ x, ms[k]? = some x := ⟨_, List.getElem?_eq_getElem (by have := HM.out; omega)⟩
      obtain ⟨g, rfl, _, d0, d1⟩ := HN.out k x hx
      have c0 := (hbel.out.cell (p := ⟨g, k * 2, none⟩) (World.block_lt_of_cell? _ _ d0)).trans d0
      have c1 := (hbel.out.cell (p := ⟨g, k * 2 + 1, none⟩) (World.block_lt_of_cell? _ _ d1)).trans d1
      have hRA := hR.out.alloc (.cells #[.string (bs x.1), .int .i64 (x.2 : Int)] 50)
      have r1 := hRA.cell (i := k) hlt
      have r2 := hRA.frozen k
      have HR2 : Hid (((wr.alloc (.cells #[.string (bs x.1), .int .i64 (x.2 : Int)] 50)).setCell ⟨K0, k, none⟩ (.string (bs x.1))).rowIs K0 9 m (stV (nmF ms) (k + 1))) := (hRA.set k (.string (bs x.1))).congr (fun i _ => by
        by_cases e : i = k
        · rw [if_pos e, e]; unfold stV nmF; rw [if_pos (by omega), hx]
        · rw [if_neg e]; unfold stV
          by_cases e2 : i < k
          · rw [if_pos e2, if_pos (by omega)]
          · rw [if_neg e2, if_neg (by omega)])
      have HB2 : Hid (Below w.heap.size w ((wr.alloc (.cells #[.string (bs x.1), .int .i64 (x.2 : Int)] 50)).setCell ⟨K0, k, none⟩ (.string (bs x.1)))) := by
        have h1 := hbel.out.trans (((Below.refl _ wr).alloc (Nat.le_refl _) (.cells #[.string (bs x.1), .int .i64 (x.2 : Int)] 50)).mono hbel.out.size)
        exact ⟨h1.os, h1.tape, h1.output, by simpa [World.setCell] using h1.size, fun j hj => (Below.heap_setCell _ _ _ _ (by show j ≠ K0; have := HK0.out; omega)).trans (h1.block j hj)⟩
      unfold stV at r1
      clear d0 d1 hx hRA hR hbel
      go_wp2_with fail
      go_roundw
      case rel => exact ⟨k + 1, by omega, by go_num, HR2, HB2⟩
      case measure => simp [intOf]; omega
    · obtain rfl : k = m := by omega
      have hlt2 : ¬ (k : Int) < (k : Int) := by omega
      go_wp2_with fail
      go_ret
      exact ⟨K0, rfl, hR.out, hbel.out⟩

set_option maxRecDepth 100000 in
set_option maxHeartbeats 2000000 in
theorem pline_any (it : Nat → List UInt8) (Ctx : World → Prop) (hit : ∀ n, n ≤ 9223372036854775807 → (it n).length ≤ 20) (hCx : ∀ W W', Ctx W → Below W.heap.size W W' → Ctx W') (hIt : ∀ (n : Nat) (W : World), n ≤ 9223372036854775807 → Ctx W → Calls Tryz.prog 64 #[.int .i64 (n : Int)] W fun e w' => e = .returned (.string (bs (it n))) ∧ Below W.heap.size W w')
    (lo c p : Nat) (av : Option Addr) (g : FnT) (w : World) (hC : Ctx w) (hN : NmR lo w av g.more) (hB : PT lo w g.body (.pointer (some ⟨p, 0, none⟩))) (hW : FW g) (hf : fsz g ≤ 1000000) :
    Calls Tryz.prog 20 #[.agg #[.string (bs g.name), .int .i64 (g.at' : Int), .slice av g.more.length c, .pointer (some ⟨p, 0, none⟩)]] w fun e w' => e = .returned (.string (bs (lnF it g))) ∧ Below w.heap.size w w' := by
  have htz : tsz g.body ≤ 1000000 := by unfold fsz at hf; omega
  have hml := hW.2.2.1
  obtain ⟨W0, hW0⟩ : ∃ W0, W0 = w.alloc (.cells #[.string (bs g.name), .int .i64 (g.at' : Int), .slice av g.more.length c, .pointer (some ⟨p, 0, none⟩)] 54) := ⟨_, rfl⟩
  have b0 : Below w.heap.size w W0 := by rw [hW0]; exact (Below.refl _ _).alloc (Nat.le_refl _) _
  have hv : W0.heap[w.heap.size]? = some (.cells #[.string (bs g.name), .int .i64 (g.at' : Int), .slice av g.more.length c, .pointer (some ⟨p, 0, none⟩)] 54 (0, 0)) := by rw [hW0]; exact heap_alloc_new w _
  have HNM : Hid (∀ W, Below W0.heap.size W0 W → Calls Tryz.prog 40 #[.agg #[.string (bs g.name), .int .i64 (g.at' : Int), .slice av g.more.length c, .pointer (some ⟨p, 0, none⟩)]] W fun e w' => ∃ K, e = .returned (.slice (some ⟨K, 0, none⟩) g.more.length g.more.length) ∧ w'.rowIs K 9 g.more.length (stV (nmF g.more) g.more.length) ∧ Below W0.heap.size W0 w') := fun W h => by
    have h2 := b0.trans (h.mono b0.size)
    exact (pnames_any (bs g.name) g.at' lo g.more.length c av _ g.more W (NmB.keep hN fun b hb hl => ⟨hb, h2.block b hl⟩) rfl hml).mono fun e w' ⟨K, k1, k2, k3⟩ => ⟨K, k1, k2, h.trans (k3.mono h.size)⟩
  have hjl : (jnF (nmF g.more) g.more.length).length ≤ 80000 := by
    have := nmC_len g.more (fun x hx => (hW.2.1 x hx).2.1) g.more.length
    rw [nmC_F] at this
    have e : (jnF (nmF g.more) g.more.length).length ≤ 18 * g.more.length := this
    omega
  have HJN : Hid (∀ (K : Nat) (W : World), W.rowIs K 9 g.more.length (stV (nmF g.more) g.more.length) → Below W0.heap.size W0 W → Calls Tryz.prog 39 #[.slice (some ⟨K, 0, none⟩) g.more.length g.more.length, .string ⟨#[44, 32]⟩] W fun e w' => e = .returned (.string (bs (jnF (nmF g.more) g.more.length))) ∧ Below W0.heap.size W0 w') := fun K W hR h =>
    (pjoin_any _ K g.more.length W hml hR (by omega)).mono fun e w' ⟨h1, h2⟩ => ⟨h1, h.trans (h2.mono h.size)⟩
  have HTX : Hid (∀ W, Below W0.heap.size W0 W → Calls Tryz.prog 41 #[.pointer (some ⟨p, 0, none⟩)] W fun e w' => e = .returned (.string (bs (inT it g.body))) ∧ Below W0.heap.size W0 w') := fun W h => by
    have h2 := b0.trans (h.mono b0.size)
    exact (ptx_all it Ctx (fun b => lo ≤ b) hit hCx hIt 1000000 (Nat.le_refl _) g.body _ W htz hW.2.2.2 (hCx _ _ hC h2) (PTB.keep (fun b hb hl => ⟨hb, h2.block b hl⟩) _ _ hB)).mono fun e w' ⟨k1, k2⟩ => ⟨k1, h.trans (k2.mono h.size)⟩
  have HE : Hid (bs (lnF it g) = (⟨#[102, 110, 32]⟩ : ByteArray) ++ bs g.name ++ (⟨#[40]⟩ : ByteArray) ++ bs (jnF (nmF g.more) g.more.length) ++ (⟨#[41, 32, 61, 32]⟩ : ByteArray) ++ bs (inT it g.body) ++ (⟨#[10]⟩ : ByteArray)) := by
    unfold Hid lnF
    rw [nmC_F]
    simp only [← bs_app]
    rfl
  have hnz : (bs g.name).size ≤ 16 := by rw [bs_size]; exact hW.1.2.1
  have hjz : (bs (jnF (nmF g.more) g.more.length)).size ≤ 80000 := by rw [bs_size]; exact hjl
  have htl : (bs (inT it g.body)).size ≤ 44000000 := by
    rw [bs_size]
    have := inT_len it hit g.body hW.2.2.2
    omega
  have HKE : Hid (∀ W, Below W0.heap.size W0 W → W.cell? ⟨w.heap.size, 0, none⟩ = some (.string (bs g.name)) ∧ W.cell? ⟨w.heap.size, 1, none⟩ = some (.int .i64 (g.at' : Int)) ∧ W.cell? ⟨w.heap.size, 2, none⟩ = some (.slice av g.more.length c) ∧ W.cell? ⟨w.heap.size, 3, none⟩ = some (.pointer (some ⟨p, 0, none⟩))) := fun W h => by
    have hb := (h.block w.heap.size (Array.getElem?_eq_some_iff.1 hv).1).trans hv
    exact ⟨by simp [World.cell?, hb], by simp [World.cell?, hb], by simp [World.cell?, hb], by simp [World.cell?, hb]⟩
  have HB0 := hid b0
  generalize bs (lnF it g) = RES at *
  generalize bs (jnF (nmF g.more) g.more.length) = SJ at *
  generalize bs (inT it g.body) = SB at *
  generalize stV (nmF g.more) g.more.length = FS at *
  generalize g.more.length = m at *
  generalize bs g.name = ns at *
  generalize (g.at' : Int) = at' at *
  have z1 : ¬ 9223372036854775807 < 3 + ns.size := by omega
  have z2 : ¬ 9223372036854775807 < 3 + ns.size + 1 := by omega
  have z3 : ¬ 9223372036854775807 < 3 + ns.size + 1 + SJ.size := by omega
  have z4 : ¬ 9223372036854775807 < 3 + ns.size + 1 + SJ.size + 4 := by omega
  have z5 : ¬ 9223372036854775807 < 3 + ns.size + 1 + SJ.size + 4 + SB.size := by omega
  have z6 : ¬ 9223372036854775807 < 3 + ns.size + 1 + SJ.size + 4 + SB.size + 1 := by omega
  have hd1 : Below W0.heap.size W0 W0.drew := (Below.refl _ _).drew
  clear hN hB hW hf htz hml b0 hv hC hjl hnz hjz htl
  go_enter Tryz.func20, Tryz.ntmps20
  go_wp2_with fail
  rw [← hW0]
  clear hW0
  go_region_held3 (fun W => W.cell? ⟨w.heap.size, 0, none⟩ = some (.string ns) ∧ W.cell? ⟨w.heap.size, 1, none⟩ = some (.int .i64 at') ∧ W.cell? ⟨w.heap.size, 2, none⟩ = some (.slice av m c) ∧ W.cell? ⟨w.heap.size, 3, none⟩ = some (.pointer (some ⟨p, 0, none⟩))) (exact HKE.out _ (by assumption))
    (first
      | (go_at_call 40; refine (HNM.out _ (by assumption)).mono ?_; rintro e w1 ⟨K, rfl, hR1, hb1⟩)
      | (go_at_call 39; refine (HJN.out _ _ hR1 (by assumption)).mono ?_; rintro e w2 ⟨rfl, hb2⟩)
      | (go_at_call 41; refine (HTX.out _ (by assumption)).mono ?_; rintro e w3 ⟨rfl, hb3⟩))
  have HBZ := hid (HB0.out.trans (hb3.mono HB0.out.size))
  go_wp2_with fail
  go_ret
  exact ⟨by rw [HE.out]; rfl, HBZ.out⟩

end Go.Proofs.YthemehdcakimgaiGreatDoor

namespace Go.Proofs.YthemehdcakimgaiGreatDoor
open Go.RowKit

theorem bld_keep {T e : TypeId} {B b : Nat} {p : Value} {l : List Value} {w w' : World} (h : Lib.BuilderAt T e B b p l w) (hb : Below w.heap.size w w') : Lib.BuilderAt T e B b p l w' := by
  have hlt := h.lt
  obtain ⟨h1, v, h2, h3, h4⟩ := h
  refine ⟨h1, v, (hb.block b hlt).trans h2, World.ownsRow.kept (row := none) h3 ⟨hb.os, hb.tape, hb.output, hb.size, fun k hk _ => hb.block k hk⟩ (by cases v.ownBlock <;> simp), h4⟩
theorem isb_keep {T e : TypeId} {B b : Nat} {l : List Value} {w w' : World} (h : Lib.IsBuilder T e B b l w) (hb : Below w.heap.size w w') : Lib.IsBuilder T e B b l w' := by
  rcases h with h | h
  · exact .inl (bld_keep h hb)
  · exact .inr (bld_keep h hb)
theorem bs_cells (l : List UInt8) : Lib.strCells (bs l) = Lib.byteCells l := by simp [Lib.strCells_eq, bs]

set_option maxRecDepth 100000 in
set_option maxHeartbeats 2000000 in
theorem pprint_any (it : Nat → List UInt8) (Ctx : World → Prop) (hit : ∀ n, n ≤ 9223372036854775807 → (it n).length ≤ 20) (hCx : ∀ W W', Ctx W → Below W.heap.size W W' → Ctx W') (hIt : ∀ (n : Nat) (W : World), n ≤ 9223372036854775807 → Ctx W → Calls Tryz.prog 64 #[.int .i64 (n : Int)] W fun e w' => e = .returned (.string (bs (it n))) ∧ Below W.heap.size W w')
    (lo p : Nat) (fs : List FnT) (w : World) (hC : Ctx w) (hP : PgAt lo w p fs) (hW : ∀ g, g ∈ fs → FW g) (hl4 : fs.length ≤ 4000) (hp : pwgt fs ≤ 1000000) :
    Calls Tryz.prog 7 #[.pointer (some ⟨p, 0, none⟩)] w fun e w' => e = .returned (.string (bs (prP it fs fs.length))) ∧ Below w.heap.size w w' := by
  obtain ⟨a, c, B, hpp, _, _, hcc, hF, _⟩ := hP
  have HPL := hid (prP_len it hit fs hW)
  have HLN : Hid (∀ W, Below w.heap.size w W → ∀ (k : Nat) (g : FnT), fs[k]? = some g → ∃ kb a2 c2 b, a = some ⟨kb, 0, none⟩ ∧ W.cell? ⟨kb, k * 4, none⟩ = some (.string (bs g.name)) ∧ W.cell? ⟨kb, k * 4 + 1, none⟩ = some (.int .i64 (g.at' : Int)) ∧ W.cell? ⟨kb, k * 4 + 2, none⟩ = some (.slice a2 g.more.length c2) ∧ W.cell? ⟨kb, k * 4 + 3, none⟩ = some (.pointer (some ⟨b, 0, none⟩)) ∧
      ∀ W', Below W.heap.size W W' → Calls Tryz.prog 20 #[.agg #[.string (bs g.name), .int .i64 (g.at' : Int), .slice a2 g.more.length c2, .pointer (some ⟨b, 0, none⟩)]] W' fun e w' => e = .returned (.string (bs (lnF it g))) ∧ Below W'.heap.size W' w') := fun W hWb k g hg => by
    obtain ⟨kb, a2, c2, b, h1, _, d0, d1, d2, d3, hn, hb⟩ := hF k g hg
    have hl := World.block_lt_of_cell? _ _ d0
    refine ⟨kb, a2, c2, b, h1, (hWb.cell (p := ⟨kb, k * 4, none⟩) hl).trans d0, (hWb.cell (p := ⟨kb, k * 4 + 1, none⟩) hl).trans d1, (hWb.cell (p := ⟨kb, k * 4 + 2, none⟩) hl).trans d2, (hWb.cell (p := ⟨kb, k * 4 + 3, none⟩) hl).trans d3, fun W' hW' => ?_⟩
    have hbb := hWb.trans (hW'.mono hWb.size)
    have hgm := List.mem_of_getElem? hg
    exact pline_any it Ctx hit hCx hIt lo c2 b a2 g W' (hCx _ _ hC hbb) (NmB.keep hn fun x hx hxl => ⟨hx, hbb.block x hxl⟩) (PTB.keep (fun x hx hxl => ⟨hx, hbb.block x hxl⟩) _ _ hb) (hW g hgm) (by have := pwgt_mem hgm; omega)
  have HSN : Hid (∀ (k : Nat) (g : FnT), fs[k]? = some g → prP it fs (k + 1) = prP it fs k ++ lnF it g) := fun k g hg => by rw [prP, hg]
  have HPW := hid hp
  obtain ⟨n, hn⟩ : ∃ n, n = fs.length := ⟨_, rfl⟩
  rw [← hn] at hpp hl4 ⊢
  have HN := hid hn
  have p0 : w.cell? ⟨p, 0, none⟩ = some (.slice a n c) := by simp [World.cell?, hpp]
  obtain ⟨V, hV⟩ : ∃ V, V = w.alloc (.cells #[.pointer none, .slice none 0 0] 68) := ⟨_, rfl⟩
  have bV : Below w.heap.size w V := by rw [hV]; exact (Below.refl _ _).alloc (Nat.le_refl _) _
  have p0' : V.cell? ⟨p, 0, none⟩ = some (.slice a n c) := (bV.cell (p := ⟨p, 0, none⟩) (World.block_lt_of_cell? _ _ p0)).trans p0
  have HI0 : Hid (Lib.IsBuilder 68 5 w.heap.size w.heap.size (Lib.byteCells (prP it fs 0)) V) := by
    unfold Hid
    rw [hV]
    exact Lib.fresh_isBuilder _ _ w
  have HB0 := hid bV
  obtain ⟨b0, hb0⟩ : ∃ b0, b0 = w.heap.size := ⟨_, rfl⟩
  have HBB := hid hb0
  rw [← hb0] at HI0
  rw [hV] at p0'
  clear hpp hcc hF hn bV hit hCx hIt hC hW hp hb0
  go_enter Tryz.func7, Tryz.ntmps7
  go_wp2_with fail
  rw [← hV, ← HBB.out]
  clear p0 p0' hV
  go_loopw [5, 11] (fun _ iv wr => ∃ (k : Nat), k ≤ n ∧ iv = .int .i64 k ∧ Hid (Lib.IsBuilder 68 5 b0 b0 (Lib.byteCells (prP it fs k)) wr) ∧ Hid (Below w.heap.size w wr)) (fun _ iv _ => n - (intOf iv).toNat)
  case atStart => exact ⟨0, Nat.zero_le _, rfl, HI0, HB0⟩
  case round =>
    obtain ⟨k, hk, rfl, HI, HB⟩ := hrel
    by_cases hlt : k < n
    · have hlt2 : (k : Int) < (n : Int) := by omega
      have hks : IntKind.i64.wrap ((k : Int) + 1) = (k : Int) + 1 := by rw [IntKind.wrap_i64]; omega
      obtain ⟨g, hg⟩ : ∃ g, fs[k]? = some g := ⟨_, List.getElem?_eq_getElem (by have := HN.out; omega)⟩
      obtain ⟨kb, a2, c2, b, rfl, c0, c1, c2', c3, hLN⟩ := HLN.out wr HB.out k g hg
      have HSS := hid (HSN.out k g hg)
      have HLL := hid hLN
      have HZ1 : Hid ((prP it fs k).length + (lnF it g).length ≤ 69000000) := by
        unfold Hid
        have h1 := HPL.out (k + 1)
        have h2 := (pwgt_take hg).2
        have h3 := HPW.out
        rw [HSS.out, List.length_append] at h1
        omega
      obtain ⟨W1, hW1⟩ : ∃ W1, W1 = wr.alloc (.cells #[.string (bs g.name), .int .i64 (g.at' : Int), .slice a2 g.more.length c2, .pointer (some ⟨b, 0, none⟩)] 54) := ⟨_, rfl⟩
      have hb1 : Below wr.heap.size wr W1 := by rw [hW1]; exact (Below.refl _ _).alloc (Nat.le_refl _) _
      have HI1 := hid (isb_keep HI.out hb1)
      have HB1 := hid (HB.out.trans (hb1.mono HB.out.size))
      have HL1 := hid (HLL.out W1 hb1)
      clear hLN HLL hg hb1 HI
      go_wp2_with fail
      rw [← hW1]
      clear hW1 c0 c1 c2' c3
      refine HL1.out.mono ?_
      rintro e w2 ⟨rfl, hb2⟩
      have HI2 := isb_keep HI1.out hb2
      have hB2 := HB1.out.trans (hb2.mono HB1.out.size)
      have HWS := hid (Tryz.Builder_WriteString b0 b0 (Lib.byteCells (prP it fs k)) (bs (lnF it g)) w2 HI2 (by rw [Lib.byteCells_length, bs_size]; have := HZ1.out; omega) (by rw [HBB.out]; exact hB2.size))
      have HB2 := hid hB2
      have HNX : Hid (Lib.byteCells (prP it fs k) ++ Lib.strCells (bs (lnF it g)) = Lib.byteCells (prP it fs (k + 1))) := by
        unfold Hid
        rw [HSS.out, bs_cells, Lib.byteCells_append]
      clear hb2 HI2 hB2 HL1 HI1 HB1
      generalize bs (lnF it g) = S at *
      go_wp2_with fail
      refine HWS.out.mono ?_
      rintro e w3 ⟨rfl, hbl, hb3⟩
      have HI3 : Hid (Lib.IsBuilder 68 5 b0 b0 (Lib.byteCells (prP it fs (k + 1))) w3) := .inr (by rw [HNX.out] at hbl; exact hbl)
      have HB3 : Hid (Below w.heap.size w w3) := HB2.out.trans (by rw [HBB.out] at hb3; exact hb3)
      clear hbl hb3 HWS
      go_wp2_with fail
      go_roundw
      case rel => exact ⟨k + 1, by omega, by go_num, HI3, HB3⟩
      case measure => simp [intOf]; omega
    · obtain rfl : k = n := by omega
      have hlt2 : ¬ (k : Int) < (k : Int) := by omega
      have HST := hid (Tryz.Builder_String_any b0 b0 (prP it fs k) wr HI.out (by rw [HBB.out]; exact HB.out.size))
      go_wp2_with fail
      refine HST.out.mono ?_
      rintro e w2 ⟨rfl, hb2⟩
      have HB2 : Hid (Below w.heap.size w w2) := HB.out.trans (by rw [HBB.out] at hb2; exact hb2)
      clear hb2
      go_wp2_with fail
      go_ret
      exact ⟨rfl, HB2.out⟩

end Go.Proofs.YthemehdcakimgaiGreatDoor

namespace Go.Proofs.YthemehdcakimgaiGreatDoor
open Go.RowKit

/-- the library's table of powers of ten -/
def PowW (w : World) : Prop := Lib.TabIs Tryz.prog w "internal/strconv.uint64pow10" .u64 Lib.pow10Tab
theorem Tryz.gpow : Tryz.prog.globalNamed "internal/strconv.uint64pow10" = some 2 := by kernel_rfl
theorem PowW.below {n : Nat} {w w' : World} (h : PowW w) (hb : Below n w w') (hn : 2 < n) : PowW w' := by
  unfold PowW Lib.TabIs World.var? at *
  rw [Tryz.gpow] at h ⊢
  simp only [Option.bind_some] at h ⊢
  rw [hb.block _ hn]
  exact h
theorem PowW.lt {w : World} (h : PowW w) : 2 < w.heap.size := by
  unfold PowW Lib.TabIs World.var? at h
  rw [Tryz.gpow] at h
  simp only [Option.bind_some] at h
  rcases Nat.lt_or_ge 2 w.heap.size with g | g
  · exact g
  · rw [Array.getElem?_eq_none g] at h; cases h
theorem PowW.keep (w w' : World) (h : PowW w) (hb : Below w.heap.size w w') : PowW w' := h.below hb h.lt
/-- a number as text -/
def itN (n : Nat) : List UInt8 := Lib.itoa (n : Int)
theorem itN_any (n : Nat) (w : World) (hn : n ≤ 9223372036854775807) (h : PowW w) : Calls Tryz.prog 64 #[.int .i64 (n : Int)] w fun e w' => e = .returned (.string (bs (itN n))) ∧ Below w.heap.size w w' := by
  refine (Tryz.strconv_Itoa (n : Int) (by omega) (by omega) w h).mono ?_
  rintro e w' ⟨rfl, k, os, rfl⟩
  refine ⟨by simp [bs, itN], ⟨rfl, rfl, rfl, by simp [Sort.grow], fun j hj => ?_⟩⟩
  show ((w.drewN k).heap ++ os)[j]? = _
  rw [Array.getElem?_append_left (by exact hj)]
  rfl
theorem nd_le : ∀ (k u : Nat), u < 10 ^ (k + 1) → Lib.nDigits u ≤ k + 1
  | 0, u, h => by rw [Lib.nDigits_small (by omega)]; exact Nat.le_refl _
  | k + 1, u, h => by
    rw [Lib.nDigits]
    split
    · omega
    · have := nd_le k (u / 10) (by rw [Nat.pow_succ] at h; omega)
      omega
theorem itN_len (n : Nat) (h : n ≤ 9223372036854775807) : (itN n).length ≤ 20 := by
  unfold itN
  rw [Lib.itoa_nonneg, Lib.decDigits_length]
  have := nd_le 18 n (by omega)
  omega

end Go.Proofs.YthemehdcakimgaiGreatDoor

namespace Go.Proofs.YthemehdcakimgaiGreatDoor
open Go.RowKit Go.Shelf

attribute [local go_sem] Oper.semAt_some

theorem tszs_step : ∀ (kids : List Tr) (i : Nat) (t : Tr), kids[i]? = some t → tszs (kids.take (i + 1)) = tszs (kids.take i) + tsz t
  | [], i, t, h => by simp at h
  | x :: r, 0, t, h => by simp at h; subst h; simp [tszs]
  | x :: r, i + 1, t, h => by
    have := tszs_step r i t (by simpa using h)
    simp only [List.take_succ_cons, tszs]
    omega
theorem PTB.formB {B : Nat → Prop} {w : World} {t : Tr} {v : Value} (h : PTB B w t v) : ∃ b, v = .pointer (some ⟨b, 0, none⟩) := by
  obtain ⟨k, nm, at', n, kids⟩ := t
  obtain ⟨b, _, _, h1, _⟩ := h
  exact ⟨b, h1⟩

set_option maxRecDepth 100000 in
set_option maxHeartbeats 2000000 in
theorem walkJ (l L0 : Nat) (W0 : World) (J : Nat → World → Prop) (hJb : ∀ j W, J j W → Below L0 W0 W) (hJa : ∀ j W o, J j W → J j (W.alloc o))
    (hY : ∀ (j : Nat) (W : World) (b : Nat) (a : Option Addr), J j W → YieldAt Fence.wide 0 Tryz.prog l #[.pointer (some ⟨b, 0, none⟩), .pointer a] W (fun e W' => e = .returned (.bool true) ∧ J (j + 1) W')) :
    ∀ (N : Nat) (t : Tr) (v : Value) (a : Option Addr) (W : World) (m j : Nat), tsz t ≤ N → J j W → PTB (fun b => b < L0) W0 t v → TOk t →
      CallsIn Fence.wide m Tryz.prog 45 #[v, .pointer a, .func (.yield l) #[] #[]] W (fun e W' => e = .returned (.bool true) ∧ J (j + tsz t) W')
  | 0, .node k nm at' n kids, v, a, W, m, j, hN, _, _, _ => by rw [tsz] at hN; omega
  | N + 1, .node k nm at' n kids, v, a, W, m, j, hN, hJ, hP, hO => by
    have ih := walkJ l L0 W0 J hJb hJa hY N
    have hnot : ∀ (x : Bool) (w : World), (Op.unary .not (.bool x)).run Tryz.prog w = .ok (.bool (!x)) w := fun _ _ => rfl
    obtain ⟨b, av, c, rfl, hbL, hb, hks⟩ := hP
    rw [tsz] at hN ⊢
    have HIH := hid ih
    have HJA := hid hJa
    have HJB := hid hJb
    have HKS := hid hks
    have HB : Hid (∀ j W, J j W → W.heap[b]? = some (.cells #[.int .i64 (k : Int), .string (bs nm), .int .i64 (at' : Int), .int .i64 (n : Int), .slice av kids.length c] 129 (0, 0))) := fun j W h => ((hJb j W h).block b hbL).trans hb
    have HO : Hid (nm.length ≤ 4000 ∧ kids.length ≤ 4000 ∧ TOks kids) := hO
    have HN := hid hN
    have hy := hY j W b a hJ
    obtain ⟨fn, tmps, assign, body, hyr, hR⟩ := hy
    have HR := hid hR
    clear hR ih hks hb hbL hO hN hJa hJb hY
    refine callsIn_of_wp Tryz.func45 rfl trivial ?_ rfl
    simp only [Tryz.ntmps45, List.size_toArray, List.length_cons, List.length_nil, Nat.reduceAdd, Nat.reduceSub, Array.replicate_succ, Array.replicate_zero, List.push_toArray, List.append_toArray, List.nil_append, List.cons_append]
    gi_wp2
    refine ⟨by simp [Fence.wide], RoundIn.mono ⟨HR.out.1, fun c cs _ => HR.out.2 c cs (room_wide _)⟩ ?_⟩
    rintro e W1 ⟨rfl, hJ1⟩
    have HJ1 := hid hJ1
    have hb1 := HB.out _ _ hJ1
    have c4 : W1.cell? ⟨b, 4, none⟩ = some (.slice av kids.length c) := by simp [World.cell?, hb1]
    clear hJ1 hb1
    gi_wp2
    gi_loopw [20] (fun iv wr => ∃ i : Nat, i ≤ kids.length ∧ iv = .int .i64 i ∧ Hid (J (j + 1 + tszs (kids.take i)) wr))
      (fun iv _ => kids.length - (intOf iv).toNat)
    case atStart => exact ⟨0, Nat.zero_le _, rfl, by simpa [tszs] using HJ1⟩
    case round =>
      obtain ⟨i, hi, rfl, HJi⟩ := hrel
      have hkl := HO.out.2.1
      by_cases hlt : i < kids.length
      · have hlt2 : (i : Int) < (kids.length : Int) := by omega
        have hks : IntKind.i64.wrap ((i : Int) + 1) = (i : Int) + 1 := by rw [IntKind.wrap_i64]; omega
        have hq : kids[i]? = some kids[i] := List.getElem?_eq_getElem hlt
        obtain ⟨g, v, rfl, hgL, hcv, hpt⟩ := PTBs.at HKS.out hq
        rw [Nat.zero_add] at hcv
        have hcv2 := ((HJB.out _ _ HJi.out).cell (p := ⟨g, i, none⟩) hgL).trans hcv
        have hbW := HB.out _ _ HJi.out
        have c0 : wr.cell? ⟨b, 0, none⟩ = some (.int .i64 (k : Int)) := by simp [World.cell?, hbW]
        have c1 : wr.cell? ⟨b, 1, none⟩ = some (.string (bs nm)) := by simp [World.cell?, hbW]
        have HSz : Hid (tsz kids[i] ≤ N) := by have := kid_lt kids i _ hq; have := HN.out; unfold Hid; omega
        have HOk : Hid (TOk kids[i]) := TOks.at HO.out.2.2 hq
        have HPT := hid hpt
        have HTS := hid (tszs_step kids i _ hq)
        clear hbW hcv hpt hkl c4 hgL
        obtain ⟨vb, rfl⟩ := PTB.formB HPT.out
        have HM : Hid (∀ (a2 : Option Addr) (W2 : World), J (j + 1 + tszs (kids.take i)) W2 → ∀ m', CallsIn Fence.wide m' Tryz.prog 45 #[.pointer (some ⟨vb, 0, none⟩), .pointer a2, .func (.yield l) #[] #[]] W2 (fun e W3 => e = .returned (.bool true) ∧ J (j + 1 + tszs (kids.take (i + 1))) W3)) := fun a2 W2 h2 m' => by
          refine (HIH.out _ _ a2 W2 m' _ HSz.out h2 HPT.out HOk.out).mono ?_
          rintro e W3 ⟨h3, h4⟩
          refine ⟨h3, ?_⟩
          rw [HTS.out, ← Nat.add_assoc]
          exact h4
        by_cases h91 : k = 9 ∧ i = 1
        · obtain ⟨rfl, rfl⟩ := h91
          clear hks hlt2
          have hlt2 : (1 : Int) < (kids.length : Int) := by omega
          gi_wp2
          refine ⟨trivial, by simp [Fence.wide], callsIn_wide.2 ((with_any (bs nm) 0 a wr).mono ?_)⟩
          rintro e w5 ⟨rfl, rfl⟩
          have HM2 := hid (HM.out (some ⟨wr.heap.size, 0, none⟩) _ (HJA.out _ _ (.cells #[.string (bs nm), .int .i64 0, .pointer a] 162) HJi.out))
          clear HM
          generalize wr.alloc (.cells #[.string (bs nm), .int .i64 0, .pointer a] 162) = w5 at *
          gi_wp2
          refine ⟨trivial, by simp [Fence.wide], (HM2.out _).mono ?_⟩
          rintro e W3 ⟨rfl, hJ3⟩
          have HJ3 := hid hJ3
          clear hJ3
          gi_wp2
          go_roundw
          case rel => exact ⟨2, by omega, rfl, HJ3⟩
          case measure => simp [intOf]; omega
        · have HM2 := hid (HM.out a wr HJi.out)
          clear HM
          by_cases h9 : k = 9
          · have q9 : ((k : Int) == 9) = true := by rw [h9]; rfl
            have q1 : ((i : Int) == 1) = false := by simp; omega
            clear h9 h91
            gi_wp2
            refine ⟨trivial, by simp [Fence.wide], (HM2.out _).mono ?_⟩
            rintro e W3 ⟨rfl, hJ3⟩
            have HJ3 := hid hJ3
            clear hJ3
            gi_wp2
            go_roundw
            case rel => exact ⟨i + 1, by omega, by go_num, HJ3⟩
            case measure => simp [intOf]; omega
          · have q9 : ((k : Int) == 9) = false := by simp; omega
            clear h9 h91
            gi_wp2
            refine ⟨trivial, by simp [Fence.wide], (HM2.out _).mono ?_⟩
            rintro e W3 ⟨rfl, hJ3⟩
            have HJ3 := hid hJ3
            clear hJ3
            gi_wp2
            go_roundw
            case rel => exact ⟨i + 1, by omega, by go_num, HJ3⟩
            case measure => simp [intOf]; omega
      · obtain rfl : i = kids.length := by omega
        rw [List.take_length] at HJi
        have HE : Hid (J (j + (1 + tszs kids)) wr) := by unfold Hid; rw [← Nat.add_assoc]; exact HJi.out
        gi_wp2
        go_ret
        exact ⟨rfl, HE.out⟩

set_option maxRecDepth 100000 in
set_option maxHeartbeats 2000000 in
theorem all1J (l bx ba L0 : Nat) (W0 : World) (J : Nat → World → Prop) (hJb : ∀ j W, J j W → Below L0 W0 W) (hJa : ∀ j W o, J j W → J j (W.alloc o))
    (hY : ∀ (j : Nat) (W : World) (b : Nat) (a : Option Addr), J j W → YieldAt Fence.wide 0 Tryz.prog l #[.pointer (some ⟨b, 0, none⟩), .pointer a] W (fun e W' => e = .returned (.bool true) ∧ J (j + 1) W'))
    (t : Tr) (x a : Option Addr) (W : World) (m j : Nat) (hx : W.cell? ⟨bx, 0, none⟩ = some (.pointer x)) (ha : W.cell? ⟨ba, 0, none⟩ = some (.pointer a)) (hJ : J j W) (hP : PTB (fun b => b < L0) W0 t (.pointer x)) (hO : TOk t) :
    CallsIn Fence.wide m Tryz.prog 44 #[.func (.yield l) #[] #[], .pointer (some ⟨bx, 0, none⟩), .pointer (some ⟨ba, 0, none⟩)] W (fun e W' => (∃ v, e = .returned v) ∧ J (j + tsz t) W') := by
  have HW := hid (fun m => walkJ l L0 W0 J hJb hJa hY (tsz t) t (.pointer x) a W m j (Nat.le_refl _) hJ hP hO)
  clear hP hO hY hJ hJa hJb
  refine callsIn_of_wp Tryz.func44 rfl trivial ?_ rfl
  simp only [Tryz.ntmps44, List.size_toArray, List.length_cons, List.length_nil, Nat.reduceAdd, Nat.reduceSub, Array.replicate_succ, Array.replicate_zero, List.push_toArray, List.append_toArray, List.nil_append, List.cons_append]
  gi_wp2
  refine ⟨trivial, by simp [Fence.wide], (HW.out _).mono ?_⟩
  rintro e W1 ⟨rfl, hJ1⟩
  have HJ1 := hid hJ1
  clear hJ1
  gi_wp2
  go_end0
  exact ⟨⟨_, rfl⟩, HJ1.out⟩

/-- a loop, in the frames of one function alone -/
theorem wpB_loop {f : Nat} {P : Program} {c : Code} {Q : Exit → Act → World → Prop} {a : Act} {w : World} (I : Act → World → Prop) (μ : Act → World → Nat) (h₀ : I a w)
    (round : ∀ a w, I a w → wpB f P c (Exit.then (fun a' w' => I a' w' ∧ μ a' w' < μ a w) Q) a w) : wpB f P (Code.loop c) Q a w := by
  intro b k cs hro hb
  have key : ∀ j a w, μ a w = j → I a w →
      ∃ e a' w', Q e a' w' ∧ ArrivesIn (Machine.fenced P Fence.wide) P (lone (b.atR a (.code c :: .inLoop c :: k)) cs w) b k cs e a' w' := by
    intro j
    induction j using Nat.strongRecOn with
    | _ j ih =>
      intro a w hn hI
      obtain ⟨e, a₁, w₁, hq, harr⟩ := round a w hI b (.inLoop c :: k) cs hro hb
      cases e with
      | normal =>
        obtain ⟨hI₁, hlt⟩ := hq
        obtain ⟨e₂, a₂, w₂, hq₂, harr₂⟩ := ih (μ a₁ w₁) (hn ▸ hlt) a₁ w₁ rfl hI₁
        exact ⟨e₂, a₂, w₂, hq₂, .of_steps (StepsIn.trans harr (.one (fenced_wide _ _) stepR_inLoop)) harr₂⟩
      | exit id => exact ⟨_, a₁, w₁, hq, .pass (x := .inLoop c) rfl (fun _ _ => .inl (by simp)) harr⟩
      | goto l => exact ⟨_, a₁, w₁, hq, .pass (x := .inLoop c) rfl (fun _ _ => .inl (by simp)) harr⟩
      | ret => exact ⟨_, a₁, w₁, hq, .pass (x := .inLoop c) rfl (fun _ _ => .inl (by simp)) harr⟩
      | panic ch => exact ⟨_, a₁, w₁, hq, .pass (x := .inLoop c) rfl (fun _ _ => .inl (by simp)) harr⟩
      | outgrown => exact ⟨_, a₁, w₁, hq, .pass (x := .inLoop c) rfl (fun _ _ => .inl (by simp)) harr⟩
  obtain ⟨e, a', w', hq, harr⟩ := key _ a w rfl h₀
  exact ⟨e, a', w', hq, .of_steps (.one (fenced_wide _ _) stepR_loop) harr⟩
theorem wpB_seqB {f : Nat} {P : Program} {x y : Code} {Q : Exit → Act → World → Prop} {a : Act} {w : World} (h : wpB f P x (Exit.then (wpB f P y Q) Q) a w) : wpB f P (Code.seq x y) Q a w := by
  intro b k cs hro hb
  have h0 : (lone (b.atR a (.code (.seq x y) :: k)) cs w).fenced P Fence.wide := fenced_wide _ _
  obtain ⟨e, a₁, w₁, hq, harr⟩ := h b (.code y :: k) cs hro hb
  cases e with
  | normal =>
    obtain ⟨e₂, a₂, w₂, hq₂, harr₂⟩ := hq b k cs hro hb
    exact ⟨e₂, a₂, w₂, hq₂, .of_steps (.head h0 stepR_seq harr) harr₂⟩
  | exit id => exact ⟨_, a₁, w₁, hq, .of_steps (.one h0 stepR_seq) (.pass (x := .code y) rfl (fun _ _ => .inl (by simp)) harr)⟩
  | goto l => exact ⟨_, a₁, w₁, hq, .of_steps (.one h0 stepR_seq) (.pass (x := .code y) rfl (fun _ _ => .inl (by simp)) harr)⟩
  | ret => exact ⟨_, a₁, w₁, hq, .of_steps (.one h0 stepR_seq) (.pass (x := .code y) rfl (fun _ _ => .inl (by simp)) harr)⟩
  | panic ch => exact ⟨_, a₁, w₁, hq, .of_steps (.one h0 stepR_seq) (.pass (x := .code y) rfl (fun _ _ => .inl (by simp)) harr)⟩
  | outgrown => exact ⟨_, a₁, w₁, hq, .of_steps (.one h0 stepR_seq) (.pass (x := .code y) rfl (fun _ _ => .inl (by simp)) harr)⟩
/-- a block that its own exit leaves, or that ends by itself -/
def blkQ (id : Nat) (Q : Exit → Act → World → Prop) : Exit → Act → World → Prop
  | .normal, a, w => Q .normal a w
  | .exit i, a, w => i = id ∧ Q .normal a w
  | _, _, _ => False
theorem wpB_blockX {f id : Nat} {P : Program} {c : Code} {Q : Exit → Act → World → Prop} {a : Act} {w : World} (h : wpB f P c (blkQ id Q) a w) : wpB f P (Code.block id c) Q a w := by
  intro b k cs hro hb
  have h0 : (lone (b.atR a (.code (.block id c) :: k)) cs w).fenced P Fence.wide := fenced_wide _ _
  obtain ⟨e, a₁, w₁, hq, harr⟩ := h b (.inBlock id :: k) cs hro hb
  cases e with
  | normal => exact ⟨.normal, a₁, w₁, hq, .head h0 stepR_block (StepsIn.trans harr (.one (fenced_wide _ _) stepR_inBlock))⟩
  | exit i =>
    obtain ⟨rfl, hq⟩ := hq
    exact ⟨.normal, a₁, w₁, hq, .head h0 stepR_block (harr.1 k (by simp [exitTo]))⟩
  | panic ch => exact hq.elim
  | goto l => exact hq.elim
  | ret => exact hq.elim
  | outgrown => exact hq.elim

end Go.Proofs.YthemehdcakimgaiGreatDoor
