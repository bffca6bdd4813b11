/- Package source: Parse. Package source: a function of a name. Package source: the names of the functions. -/
import Derived.Test.YthemehdcakimgaiGreatDoorBgAR
import Derived.Deep.OwnRows
namespace Go.Proofs.YthemehdcakimgaiGreatDoor
open Go.RowKit

/-- the numbers of the first k functions, by their names -/
def nmM (fs : List FnT) : Nat → List UInt8 → Option Int
  | 0 => fun _ => none
  | k + 1 => match fs[k]? with
    | some g => updI (nmM fs k) g.name (k : Int)
    | none => nmM fs k
/-- a program in memory, from a block on -/
def PgAt (lo : Nat) (w : World) (p : Nat) (fs : List FnT) : Prop := ∃ a c B, w.heap[p]? = some (.cells #[.slice a fs.length c, .map (some B)] 56 (0, 0)) ∧ lo ≤ p ∧ lo ≤ B ∧ (fs.length ≤ c ∧ c ≤ maxLen) ∧ FnR lo w a fs ∧ MapI nmk (fun x => x.length ≤ 4000) w B (nmM fs fs.length)
/-- how Parse ends -/
def PaR (w : World) (len : Nat) (r : Res (List FnT)) (e : Ending) (w' : World) : Prop := Below w.heap.size w w' ∧
  if 4000 < len then e = .returned (.tuple #[.pointer none, .int .i64 0, .iface 44 (.int .i64 9)])
  else match r with
  | .ok fs _ => (∃ p, e = .returned (.tuple #[.pointer (some ⟨p, 0, none⟩), .int .i64 0, .nilIface]) ∧ PgAt w.heap.size w' p fs) ∧ (∀ g, g ∈ fs → FW g) ∧ fs.length ≤ 4000
  | .bad er at' => e = .returned (.tuple #[.pointer none, .int .i64 (at' : Int), .iface 44 (.int .i64 (er : Int))])
  | .out => False
theorem neE (T : TypeId) (v : Value) (w : World) : (binOp BinOp.neq 24 (.iface T v) .nilIface).run Tryz.prog w = .ok (.bool true) w := by kernel_rfl
theorem neN (w : World) : (binOp BinOp.neq 24 .nilIface .nilIface).run Tryz.prog w = .ok (.bool false) w := by kernel_rfl
theorem pRes_ok {L : List UInt8} {f j : Nat} {fs : List FnT} (h : pRes L f = .ok fs j) (hL : L.length ≤ 4000) : (∀ g, g ∈ fs → FW g) ∧ fs.length ≤ 4000 := by
  have hal := pProg_al L hL f [] 0 (by simp) (Nat.le_refl _) (Nat.zero_le _)
  unfold pRes at h
  cases hq : pProg L f [] 0 with
  | out => rw [hq] at h; cases h
  | bad e a => rw [hq] at h; cases h
  | ok gs k =>
    rw [hq] at h hal
    obtain ⟨⟨_, hk⟩, h1, h2⟩ := hal
    cases hc : ckn gs L.length with
    | some y => simp [hc] at h
    | none =>
      simp [hc] at h
      obtain ⟨rfl, rfl⟩ := h
      exact ⟨h1, by omega⟩

set_option maxRecDepth 100000 in
set_option maxHeartbeats 2000000 in
theorem parse_any (T : ByteArray) (f : Nat) (w : World) (hTm : T.size ≤ 281474976710656) (hEv : EvW w) (r : Res (List FnT)) (hr : r = pRes (by' T) f) (hro : r ≠ .out) :
    Calls Tryz.prog 4 #[.string T] w (PaR w T.size r) := by
  have hmm := @run_makeMap Tryz.prog
  have hne := neE
  have hnn := neN
  have HWD : Hid (∀ e w', PaR w T.size r e w' → PaR w T.size r e w') := fun _ _ h => h
  by_cases h4 : 4000 < T.size
  · have q4 : (4000 : Int) < (T.size : Int) := by omega
    have HQ4 := hid h4
    clear h4 hr hro hEv
    go_enter Tryz.func4, Tryz.ntmps4
    go_wp2_with fail
    go_ret3
    exact ⟨Below.refl _ _, by rw [if_pos HQ4.out]; rfl⟩
  · have q4 : ¬ (4000 : Int) < (T.size : Int) := by omega
    have HQ4 := hid h4
    have HPD := hid (parsed_any T f w (by omega) hEv r hr hro)
    have HR := hid hr
    clear h4 hr hro hEv
    cases hrr : r with
    | out =>
      rw [hrr] at HPD
      go_enter Tryz.func4, Tryz.ntmps4
      go_wp2_with fail
      refine HPD.out.mono ?_
      rintro e w1 ⟨_, h⟩
      exact h.elim
    | bad er at' =>
      rw [hrr] at HPD
      go_enter Tryz.func4, Tryz.ntmps4
      go_wp2_with fail
      refine HPD.out.mono ?_
      rintro e w1 ⟨hb, rfl⟩
      have HB := hid hb
      clear hb HPD hrr HWD HR
      go_wp2_with fail
      go_ret3
      exact ⟨HB.out, by rw [if_neg HQ4.out]; rfl⟩
    | ok fs j =>
      rw [hrr] at HPD
      have hfw := pRes_ok (HR.out.symm.trans hrr) (by rw [by_len]; have := HQ4.out; omega)
      have HFW := hid hfw
      obtain ⟨n, hn⟩ : ∃ n, n = fs.length := ⟨_, rfl⟩
      have HN := hid hn
      have hn4 : n ≤ 4000 := by have := hfw.2; omega
      clear hrr HWD HR hfw hn
      go_enter Tryz.func4, Tryz.ntmps4
      go_wp2_with fail
      refine HPD.out.mono ?_
      rintro e w1 ⟨hb, a, c, rfl, hcc, hF⟩
      have HB1 := hid hb
      have HF1 := hid hF
      have HCC := hid hcc
      rw [← HN.out]
      clear hb HPD hF hcc
      go_wp2_with fail
      have HM0 : Hid (MapI nmk (fun x => x.length ≤ 4000) (w1.alloc (.map #[] 0)) w1.heap.size (nmM fs 0)) := MapI.new w1
      have HB0 : Hid (Below w1.heap.size w1 (w1.alloc (.map #[] 0))) := (Below.refl _ w1).alloc (Nat.le_refl _) _
      generalize w1.alloc (.map #[] 0) = W0 at *
      go_loopw [28] (fun iv wr => ∃ (k : Nat), k ≤ n ∧ iv = .int .i64 k ∧ Hid (MapI nmk (fun x => x.length ≤ 4000) wr w1.heap.size (nmM fs k)) ∧ Hid (Below w1.heap.size w1 wr)) (fun iv _ => n - (intOf iv).toNat)
      case atStart => exact ⟨0, Nat.zero_le _, rfl, HM0, HB0⟩
      case round =>
        obtain ⟨k, hk, rfl, hM, hbel⟩ := hrel
        by_cases hlt : k < n
        · have hlt2 : (k : Int) < (n : Int) := by omega
          have hks : IntKind.i64.wrap ((k : Int) + 1) = (k : Int) + 1 := by rw [IntKind.wrap_i64]; omega
          obtain ⟨g, hg⟩ : ∃ g, fs[k]? = some g := ⟨_, List.getElem?_eq_getElem (by have := HN.out; omega)⟩
          obtain ⟨kb, a2, c2, b, rfl, _, d0, d1, d2, d3, _⟩ := HF1.out k g hg
          have c0 := (hbel.out.cell (p := ⟨kb, k * 4, none⟩) (World.block_lt_of_cell? _ _ d0)).trans d0
          have c1 := (hbel.out.cell (p := ⟨kb, k * 4 + 1, none⟩) (World.block_lt_of_cell? _ _ d1)).trans d1
          have c2' := (hbel.out.cell (p := ⟨kb, k * 4 + 2, none⟩) (World.block_lt_of_cell? _ _ d2)).trans d2
          have c3 := (hbel.out.cell (p := ⟨kb, k * 4 + 3, none⟩) (World.block_lt_of_cell? _ _ d3)).trans d3
          have HFO := hid ((HFW.out.1 g (List.mem_of_getElem? hg)).ok)
          have HG := hid hg
          clear d0 d1 d2 d3 hg
          go_wp2_with (refine wpList_updateI namK _ rfl _ _ _ rfl w1.heap.size (nmM fs k) rfl ?_ g.name (k : Int) rfl rfl HFO.out.1 ?_)
          · exact hM.out.below ((Below.refl _ wr).alloc (Nat.le_refl _) _)
          · intro w' hM' hgb
            have HM' : Hid (MapI nmk (fun x => x.length ≤ 4000) w' w1.heap.size (nmM fs (k + 1))) := by unfold Hid; rw [nmM, HG.out]; exact hM'
            have HB' : Hid (Below w1.heap.size w1 w') := gb_belS (hbel.out.trans (((Below.refl _ wr).alloc (Nat.le_refl _) _).mono hbel.out.size)) hgb (Nat.le_refl _) rfl
            clear hM' hgb hM hbel c0 c1 c2' c3
            go_wp2_with fail
            go_roundw
            case rel => exact ⟨k + 1, by omega, by go_num, HM', HB'⟩
            case measure => simp [intOf]; omega
        · obtain rfl : k = n := by omega
          have hlt2 : ¬ (k : Int) < (k : Int) := by omega
          go_wp2_with fail
          go_ret3
          have hbA : Below wr.heap.size wr (wr.alloc (.cells #[.slice a k c, .map (some w1.heap.size)] 56)) := (Below.refl _ _).alloc (Nat.le_refl _) _
          have hb1 := hbel.out.trans (hbA.mono hbel.out.size)
          refine ⟨HB1.out.trans (hb1.mono HB1.out.size), ?_⟩
          rw [if_neg HQ4.out]
          refine ⟨⟨wr.heap.size, rfl, a, c, w1.heap.size, ?_, ?_, HB1.out.size, HCC.out, ?_, ?_⟩, HFW.out⟩
          · rw [← HN.out]; exact heap_alloc_new wr _
          · exact Nat.le_trans HB1.out.size hbel.out.size
          · exact FnR.kept HF1.out (Nat.le_refl _) (fun b _ hl => hb1.block b hl)
          · rw [← HN.out]; exact hM.out.below hbA

end Go.Proofs.YthemehdcakimgaiGreatDoor

namespace Go.Proofs.YthemehdcakimgaiGreatDoor
open Go.RowKit

set_option maxRecDepth 100000 in
set_option maxHeartbeats 2000000 in
theorem function_at (p i n c kb B : Nat) (fs : List FnT) (nm : List UInt8) (g : FnT) (a2 : Option Addr) (c2 b : Nat) (w : World) (p0 : w.cell? ⟨p, 0, none⟩ = some (.slice (some ⟨kb, 0, none⟩) n c)) (p1 : w.cell? ⟨p, 1, none⟩ = some (.map (some B))) (hil : i < n) (hM : MapI nmk (fun x => x.length ≤ 4000) w B (nmM fs fs.length)) (hi : nmM fs fs.length nm = some (i : Int)) (hnm : nm.length ≤ 4000)
    (d0 : w.cell? ⟨kb, i * 4, none⟩ = some (.string (bs g.name))) (d1 : w.cell? ⟨kb, i * 4 + 1, none⟩ = some (.int .i64 (g.at' : Int))) (d2 : w.cell? ⟨kb, i * 4 + 2, none⟩ = some (.slice a2 g.more.length c2)) (d3 : w.cell? ⟨kb, i * 4 + 3, none⟩ = some (.pointer (some ⟨b, 0, none⟩))) :
    Calls Tryz.prog 25 #[.pointer (some ⟨p, 0, none⟩), .string (bs nm)] w fun e w' => e = .returned (.agg #[.string (bs g.name), .int .i64 (g.at' : Int), .slice a2 g.more.length c2, .pointer (some ⟨b, 0, none⟩)]) ∧ Below w.heap.size w w' := by
  have hil2 : (i : Int) < (n : Int) := by omega
  have hi0 : (0 : Int) ≤ (i : Int) := by omega
  have HS : Hid (∀ W, Below w.heap.size w W → W.cell? ⟨p, 0, none⟩ = some (.slice (some ⟨kb, 0, none⟩) n c) ∧ W.cell? ⟨p, 1, none⟩ = some (.map (some B)) ∧ W.cell? ⟨kb, i * 4, none⟩ = some (.string (bs g.name)) ∧ W.cell? ⟨kb, i * 4 + 1, none⟩ = some (.int .i64 (g.at' : Int)) ∧ W.cell? ⟨kb, i * 4 + 2, none⟩ = some (.slice a2 g.more.length c2) ∧ W.cell? ⟨kb, i * 4 + 3, none⟩ = some (.pointer (some ⟨b, 0, none⟩)) ∧
      (Instr.lookup 48 (.map (some B)) (.string (bs nm)) false).run Tryz.prog W = .ok (.int .i64 (i : Int)) W) := fun W hb => by
    refine ⟨(hb.cell (p := ⟨p, 0, none⟩) (World.block_lt_of_cell? _ _ p0)).trans p0, (hb.cell (p := ⟨p, 1, none⟩) (World.block_lt_of_cell? _ _ p1)).trans p1, (hb.cell (p := ⟨kb, i * 4, none⟩) (World.block_lt_of_cell? _ _ d0)).trans d0, (hb.cell (p := ⟨kb, i * 4 + 1, none⟩) (World.block_lt_of_cell? _ _ d1)).trans d1, (hb.cell (p := ⟨kb, i * 4 + 2, none⟩) (World.block_lt_of_cell? _ _ d2)).trans d2, (hb.cell (p := ⟨kb, i * 4 + 3, none⟩) (World.block_lt_of_cell? _ _ d3)).trans d3, ?_⟩
    have h1 := (hM.below hb).lookup namK (x := nm) hnm false
    rw [hi] at h1
    exact h1
  have HB0 : Hid (Below w.heap.size w (w.alloc (.cells #[.string ⟨#[]⟩, .int .i64 0, .slice none 0 0, .pointer none] 54))) := (Below.refl _ w).alloc (Nat.le_refl _) _
  clear hM d0 d1 d2 d3 p0 p1 hi hnm
  go_enter Tryz.func25, Tryz.ntmps25
  go_wp2_with fail
  refine wp_region_held_drew (S := (fun W => Below w.heap.size w W)) (by kernel_rfl) (HB0.out.trans ⟨rfl, rfl, rfl, Nat.le_refl _, fun _ _ => rfl⟩) (fun hHeld => ?_)
  refine wpAnyH_takeS (i := 0) (v := .pointer (some ⟨p, 0, none⟩)) rfl (by kernel_rfl) (by kernel_rfl) (by kernel_rfl) (fun _ _ _ h => h) (by rfl) (fun W hC => by go_simp) hHeld ?_
  simp only [Act.put, List.setIfInBounds_toArray, List.set_cons_zero, List.set_cons_succ]
  refine wpAnyH_takeS (i := 1) (v := .pointer (some ⟨p, 0, none⟩)) rfl (by kernel_rfl) (by kernel_rfl) (by kernel_rfl) (fun _ _ _ h => h) (by rfl) (fun W hC => by go_simp) hHeld ?_
  simp only [Act.put, List.setIfInBounds_toArray, List.set_cons_zero, List.set_cons_succ]
  refine wpAnyH_takeS (i := 2) (v := .pointer (some ⟨p, 0, none⟩)) rfl (by kernel_rfl) (by kernel_rfl) (by kernel_rfl) (fun _ _ _ h => h) (by rfl) (fun W hC => by go_simp) hHeld ?_
  simp only [Act.put, List.setIfInBounds_toArray, List.set_cons_zero, List.set_cons_succ]
  refine wpAnyH_takeS (i := 3) (v := .slice (some ⟨kb, 0, none⟩) n c) rfl (by kernel_rfl) (by kernel_rfl) (by kernel_rfl) (fun _ _ _ h => h) (by rfl) (fun W hC => by (obtain ⟨y0, y1, y2, y3, y4, y5, y6⟩ := HS.out W hC); go_simp) hHeld ?_
  simp only [Act.put, List.setIfInBounds_toArray, List.set_cons_zero, List.set_cons_succ]
  refine wpAnyH_takeS (i := 4) (v := .pointer (some ⟨p, 0, none⟩)) rfl (by kernel_rfl) (by kernel_rfl) (by kernel_rfl) (fun _ _ _ h => h) (by rfl) (fun W hC => by go_simp) hHeld ?_
  simp only [Act.put, List.setIfInBounds_toArray, List.set_cons_zero, List.set_cons_succ]
  refine wpAnyH_takeS (i := 5) (v := .pointer (some ⟨p, 0, none⟩)) rfl (by kernel_rfl) (by kernel_rfl) (by kernel_rfl) (fun _ _ _ h => h) (by rfl) (fun W hC => by go_simp) hHeld ?_
  simp only [Act.put, List.setIfInBounds_toArray, List.set_cons_zero, List.set_cons_succ]
  refine wpAnyH_takeS (i := 6) (v := .pointer (some ⟨p, 1, none⟩)) rfl (by kernel_rfl) (by kernel_rfl) (by kernel_rfl) (fun _ _ _ h => h) (by rfl) (fun W hC => by go_simp) hHeld ?_
  simp only [Act.put, List.setIfInBounds_toArray, List.set_cons_zero, List.set_cons_succ]
  refine wpAnyH_takeS (i := 7) (v := .map (some B)) rfl (by kernel_rfl) (by kernel_rfl) (by kernel_rfl) (fun _ _ _ h => h) (by rfl) (fun W hC => by (obtain ⟨y0, y1, y2, y3, y4, y5, y6⟩ := HS.out W hC); go_simp) hHeld ?_
  simp only [Act.put, List.setIfInBounds_toArray, List.set_cons_zero, List.set_cons_succ]
  refine wpAnyH_takeS (i := 8) (v := .string (bs nm)) rfl (by kernel_rfl) (by kernel_rfl) (by kernel_rfl) (fun _ _ _ h => h) (by rfl) (fun W hC => by go_simp) hHeld ?_
  simp only [Act.put, List.setIfInBounds_toArray, List.set_cons_zero, List.set_cons_succ]
  refine wpAnyH_takeS (i := 9) (v := .int .i64 (i : Int)) rfl (by kernel_rfl) (by kernel_rfl) (by kernel_rfl) (fun _ _ _ h => h) (by rfl) (fun W hC => by (obtain ⟨y0, y1, y2, y3, y4, y5, y6⟩ := HS.out W hC); go_simp) hHeld ?_
  simp only [Act.put, List.setIfInBounds_toArray, List.set_cons_zero, List.set_cons_succ]
  refine wpAnyH_takeS (i := 10) (v := .pointer (some ⟨kb, i * 4, none⟩)) rfl (by kernel_rfl) (by kernel_rfl) (by kernel_rfl) (fun _ _ _ h => h) (by rfl) (fun W hC => by go_simp) hHeld ?_
  simp only [Act.put, List.setIfInBounds_toArray, List.set_cons_zero, List.set_cons_succ]
  refine wpAnyH_takeS (i := 11) (v := .agg #[.string (bs g.name), .int .i64 (g.at' : Int), .slice a2 g.more.length c2, .pointer (some ⟨b, 0, none⟩)]) rfl (by kernel_rfl) (by kernel_rfl) (by kernel_rfl) (fun _ _ _ h => h) (by rfl) (fun W hC => by (obtain ⟨y0, y1, y2, y3, y4, y5, y6⟩ := HS.out W hC); go_simp) hHeld ?_
  simp only [Act.put, List.setIfInBounds_toArray, List.set_cons_zero, List.set_cons_succ]
  refine wpAnyH_ready (rs := [12]) (by kernel_rfl) (by simp) ?_
  refine AllReadyH.consS rfl (fun K hK => ?_) AllReadyH.nil
  go_simp
  have hb1 : Below w.heap.size w (w.alloc (.cells #[.string (bs g.name), .int .i64 (g.at' : Int), .slice a2 g.more.length c2, .pointer (some ⟨b, 0, none⟩)] 54)).drew := ((Below.refl _ w).alloc (Nat.le_refl _) _).trans ⟨rfl, rfl, rfl, Nat.le_refl _, fun _ _ => rfl⟩
  refine hK.out _ _ hb1 (fun hHeld => ?_)
  clear hK K
  refine wpAnyH_done (by kernel_rfl) ?_ _
  go_wp2_with fail
  refine bodyPost_ret (results_cell_row rfl _ _ w.heap.size 54 _ (0, 0) _ rfl (heap_alloc_new w _) Tryz.underlying54 rfl (by kernel_rfl)) rfl ?_
  exact ⟨rfl, hb1⟩

theorem function_any (lo p i : Nat) (fs : List FnT) (nm : List UInt8) (g : FnT) (w : World) (hP : PgAt lo w p fs) (hi : nmM fs fs.length nm = some (i : Int)) (hg : fs[i]? = some g) (hnm : nm.length ≤ 4000) :
    Calls Tryz.prog 25 #[.pointer (some ⟨p, 0, none⟩), .string (bs nm)] w fun e w' => ∃ a2 c b, e = .returned (.agg #[.string (bs g.name), .int .i64 (g.at' : Int), .slice a2 g.more.length c, .pointer (some ⟨b, 0, none⟩)]) ∧ NmR lo w a2 g.more ∧ PT lo w g.body (.pointer (some ⟨b, 0, none⟩)) ∧ Below w.heap.size w w' := by
  obtain ⟨a, c, B, hp, _, _, hcc, hF, hM⟩ := hP
  have hil : i < fs.length := (List.getElem?_eq_some_iff.1 hg).1
  obtain ⟨kb, a2, c2, b, rfl, _, d0, d1, d2, d3, d4, d5⟩ := hF i g hg
  have p0 : w.cell? ⟨p, 0, none⟩ = some (.slice (some ⟨kb, 0, none⟩) fs.length c) := by simp [World.cell?, hp]
  have p1 : w.cell? ⟨p, 1, none⟩ = some (.map (some B)) := by simp [World.cell?, hp]
  refine (function_at p i fs.length c kb B fs nm g a2 c2 b w p0 p1 hil hM hi hnm d0 d1 d2 d3).mono ?_
  rintro e w1 ⟨rfl, hb⟩
  exact ⟨a2, c2, b, rfl, d4, d5, hb⟩

theorem fld_more (a b c d : Value) (w : World) : (Instr.field 54 (.agg #[a, b, c, d]) 1).run Tryz.prog w = .ok c w := by kernel_rfl
theorem mainS : (⟨#[109, 97, 105, 110]⟩ : ByteArray) = bs mainW := by
  apply ByteArray.ext
  rfl
set_option maxRecDepth 100000 in
set_option maxHeartbeats 1000000 in
theorem args_any (lo p i : Nat) (fs : List FnT) (g : FnT) (w : World) (hP : PgAt lo w p fs) (hi : nmM fs fs.length mainW = some (i : Int)) (hg : fs[i]? = some g) :
    Calls Tryz.prog 12 #[.pointer (some ⟨p, 0, none⟩)] w fun e w' => e = .returned (.int .i64 (g.more.length : Int)) ∧ Below w.heap.size w w' := by
  have HF := hid (function_any lo p i fs mainW g w hP hi hg (by decide))
  rw [← mainS] at HF
  have hfl := fld_more
  clear hP hi hg
  go_enter Tryz.func12, Tryz.ntmps12
  go_wp2_with fail
  refine HF.out.mono ?_
  rintro e w1 ⟨a2, c, b, rfl, _, _, hb⟩
  have HB := hid hb
  clear hb HF
  go_wp2_with fail
  go_ret
  exact ⟨rfl, HB.out⟩

end Go.Proofs.YthemehdcakimgaiGreatDoor

namespace Go.Proofs.YthemehdcakimgaiGreatDoor
open Go.RowKit

/-- names of functions, one after another; the first k of them alone -/
def nmV (fs : List FnT) (k : Nat) (i : Nat) : Value := .string (if i < k then bs (match fs[i]? with | some g => g.name | none => []) else ⟨#[]⟩)

set_option maxRecDepth 100000 in
set_option maxHeartbeats 2000000 in
theorem functions_any (lo p : Nat) (fs : List FnT) (w : World) (hP : PgAt lo w p fs) (hl4 : fs.length ≤ 4000) :
    Calls Tryz.prog 13 #[.pointer (some ⟨p, 0, none⟩)] w fun e w' => ∃ k, e = .returned (.slice (some ⟨k, 0, none⟩) fs.length fs.length) ∧ w.heap.size ≤ k ∧ w'.rowIs k 9 fs.length (nmV fs fs.length) ∧ Below w.heap.size w w' := by
  obtain ⟨a, c, B, hp, _, _, hcc, hF, _⟩ := hP
  obtain ⟨n, hn⟩ : ∃ n, n = fs.length := ⟨_, rfl⟩
  rw [← hn] at hp hl4 ⊢
  have HN := hid hn
  have p0 : w.cell? ⟨p, 0, none⟩ = some (.slice a n c) := by simp [World.cell?, hp]
  have HF := hid hF
  have p0' : (w.alloc (.cells (madeCells #[.string ⟨#[]⟩] n) 9)).cell? ⟨p, 0, none⟩ = some (.slice a n c) := (((Below.refl _ w).alloc (Nat.le_refl _) _).cell (p := ⟨p, 0, none⟩) (World.block_lt_of_cell? _ _ p0)).trans p0
  have HB0 : Hid (Below w.heap.size w (w.alloc (.cells (madeCells #[.string ⟨#[]⟩] n) 9))) := (Below.refl _ w).alloc (Nat.le_refl _) _
  have HR0 : Hid ((w.alloc (.cells (madeCells #[.string ⟨#[]⟩] n) 9)).rowIs w.heap.size 9 n (nmV fs 0)) := (World.rowIs_made w _ n _).congr (fun i _ => by unfold nmV; rw [if_neg (by omega)])
  have hSI : (Tryz.prog.info? 9).map (fun i => (i.zero, i.size, i.bytes)) = some (some (.string ⟨#[]⟩), 1, 16) := by kernel_rfl
  obtain ⟨i0, hi, hz0, hz1, hz2⟩ := info_parts hSI
  clear hp hcc hF hn hSI
  go_enter Tryz.func13, Tryz.ntmps13
  go_wp2_with (refine wpList_make_row _ rfl _ _ _ rfl 9 i0 (.string ⟨#[]⟩) Tryz.underlying37 hi hz0 hz1 rfl .i64 .i64 n rfl rfl (by rw [hz2]; omega) (by omega) ?_)
  clear p0 p0'
  generalize w.alloc (.cells (madeCells #[.string ⟨#[]⟩] n) 9) = W0 at *
  obtain ⟨K0, hK0⟩ : ∃ K0, K0 = w.heap.size := ⟨_, rfl⟩
  rw [← hK0] at HR0
  rw [← hK0]
  have HK0 := hid hK0
  clear hK0
  go_loopw [17] (fun iv wr => ∃ (k : Nat), k ≤ n ∧ iv = .int .i64 k ∧ Hid (wr.rowIs K0 9 n (nmV fs k)) ∧ Hid (Below w.heap.size w wr)) (fun iv _ => n - (intOf iv).toNat)
  case atStart => exact ⟨0, Nat.zero_le _, rfl, HR0, HB0⟩
  case round =>
    obtain ⟨k, hk, rfl, hR, hbel⟩ := hrel
    by_cases hlt : k < n
    · have hlt2 : (k : Int) < (n : Int) := by omega
      have hks : IntKind.i64.wrap ((k : Int) + 1) = (k : Int) + 1 := by rw [IntKind.wrap_i64]; omega
      obtain ⟨g, hg⟩ : ∃ g, fs[k]? = some g := ⟨_, List.getElem?_eq_getElem (by have := HN.out; omega)⟩
      obtain ⟨kb, a2, c2, b, rfl, _, d0, d1, d2, d3, _⟩ := HF.out k g hg
      have c0 := (hbel.out.cell (p := ⟨kb, k * 4, none⟩) (World.block_lt_of_cell? _ _ d0)).trans d0
      have c1 := (hbel.out.cell (p := ⟨kb, k * 4 + 1, none⟩) (World.block_lt_of_cell? _ _ d1)).trans d1
      have c2' := (hbel.out.cell (p := ⟨kb, k * 4 + 2, none⟩) (World.block_lt_of_cell? _ _ d2)).trans d2
      have c3 := (hbel.out.cell (p := ⟨kb, k * 4 + 3, none⟩) (World.block_lt_of_cell? _ _ d3)).trans d3
      have hRA := hR.out.alloc (.cells #[.string (bs g.name), .int .i64 (g.at' : Int), .slice a2 g.more.length c2, .pointer (some ⟨b, 0, none⟩)] 54)
      have r1 := hRA.cell (i := k) hlt
      have r2 := hRA.frozen k
      have HR2 : Hid (((wr.alloc (.cells #[.string (bs g.name), .int .i64 (g.at' : Int), .slice a2 g.more.length c2, .pointer (some ⟨b, 0, none⟩)] 54)).setCell ⟨K0, k, none⟩ (.string (bs g.name))).rowIs K0 9 n (nmV fs (k + 1))) := (hRA.set k (.string (bs g.name))).congr (fun i _ => by
        by_cases e : i = k
        · rw [if_pos e, e]; unfold nmV; rw [if_pos (by omega), hg]
        · rw [if_neg e]; unfold nmV
          by_cases e2 : i < k
          · rw [if_pos e2, if_pos (by omega)]
          · rw [if_neg e2, if_neg (by omega)])
      have HB2 : Hid (Below w.heap.size w ((wr.alloc (.cells #[.string (bs g.name), .int .i64 (g.at' : Int), .slice a2 g.more.length c2, .pointer (some ⟨b, 0, none⟩)] 54)).setCell ⟨K0, k, none⟩ (.string (bs g.name)))) := by
        have h1 := hbel.out.trans (((Below.refl _ wr).alloc (Nat.le_refl _) (.cells #[.string (bs g.name), .int .i64 (g.at' : Int), .slice a2 g.more.length c2, .pointer (some ⟨b, 0, none⟩)] 54)).mono hbel.out.size)
        exact ⟨h1.os, h1.tape, h1.output, by simpa [World.setCell] using h1.size, fun j hj => (Below.heap_setCell _ _ _ _ (by show j ≠ K0; have := HK0.out; omega)).trans (h1.block j hj)⟩
      unfold nmV at r1
      clear d0 d1 d2 d3 hg hRA hR hbel
      go_wp2_with fail
      go_roundw
      case rel => exact ⟨k + 1, by omega, by go_num, HR2, HB2⟩
      case measure => simp [intOf]; omega
    · obtain rfl : k = n := by omega
      have hlt2 : ¬ (k : Int) < (k : Int) := by omega
      go_wp2_with fail
      go_ret
      exact ⟨K0, rfl, by have := HK0.out; omega, hR.out, hbel.out⟩

end Go.Proofs.YthemehdcakimgaiGreatDoor
