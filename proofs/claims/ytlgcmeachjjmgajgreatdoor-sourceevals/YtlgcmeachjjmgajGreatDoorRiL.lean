/- The reference of programs as text: Eval. -/
import Derived.Test.YtlgcmeachjjmgajGreatDoorBfF
import Derived.Test.YtlgcmeachjjmgajGreatDoorBfA
namespace Go.Proofs.YtlgcmeachjjmgajGreatDoor
open Go.RowKit

/-- how the reference's Eval ends -/
def RlR (n m : Nat) (fuel : Int) (w : World) (r : ER Int) (e : Ending) (w' : World) : Prop := Below w.heap.size w w' ∧
  if n ≠ m then e = .returned (.tuple #[.agg #[.int .i64 0, .int .i64 0], .int .i64 2])
  else if fuel < 0 ∨ 16384 < fuel then e = .returned (.tuple #[.agg #[.int .i64 0, .int .i64 0], .int .i64 3])
  else match r with
  | .val x k => e = .returned (.tuple #[.agg #[.int .i64 x, .int .i64 (k : Int)], .int .i64 0])
  | .stop er => e = .returned (.tuple #[.agg #[.int .i64 0, .int .i64 0], .int .i64 (er : Int)]) ∧ er ≠ 0
  | .out => False
theorem RFl.ecx {lo V : Nat} {w w' : World} {a : Option Addr} {fs : List FnT} {Xs : List Nat} (h : RFl lo w a fs Xs) (hb : Below w.heap.size w w') (hV : w.heap.size ≤ V) : ECx V a fs Xs w' := ⟨h.len, fun i g X hg hX => by
  obtain ⟨⟨k, k1, _, k3⟩, h4⟩ := h.at' i g X hg hX
  have hl := World.block_lt_of_cell? _ _ k3
  exact ⟨⟨k, k1, Nat.lt_of_lt_of_le hl hV, (hb.cell (p := ⟨k, i, none⟩) hl).trans k3⟩, RFnB.keep (B := fun b => lo ≤ b) h4 (fun b _ hbl => ⟨Nat.lt_of_lt_of_le hbl hV, hb.block b hbl⟩)⟩⟩

set_option maxRecDepth 100000 in
set_option maxHeartbeats 2000000 in
theorem reval_size (p lo c i : Nat) (a : Option Addr) (fs : List FnT) (Xs : List Nat) (g : FnT) (w : World) (hF : RFl lo w a fs Xs) (hn : fs.length ≤ 4000) (hFs : FsOk fs) (hgi : fs[i]? = some g) (hgn : g.name = mainW) (aa : Option Addr) (ca na : Nat) (fuel : Int) (r : ER Int) (hne : na ≠ g.more.length) :
    Calls Tryz.prog 12 #[.int .i64 p, .slice a fs.length c, .slice aa na ca, .int .i64 fuel] w (RlR na g.more.length fuel w r) := by
  have hbA : Below w.heap.size w (w.alloc (.cells #[.int .i64 0, .int .i64 0] 36)) := (Below.refl _ w).alloc (Nat.le_refl _) _
  obtain ⟨X, hXi⟩ : ∃ X, Xs[i]? = some X := ⟨_, List.getElem?_eq_getElem (by rw [hF.len]; exact (List.getElem?_eq_some_iff.1 hgi).1)⟩
  have HFD : Hid (∀ W, Below w.heap.size w W → Calls Tryz.prog 20 #[.slice a fs.length c, .string ⟨#[109, 97, 105, 110]⟩] W fun e w' => e = .returned (.pointer (some ⟨X, 0, none⟩)) ∧ w' = W) := fun W hb => by
    rw [mainS]
    refine (rgfind_any lo c a fs Xs (bs mainW) W (hF.keep (Nat.le_refl _) (fun b _ hl => hb.block b hl)) (by omega)).mono ?_
    rintro en w' ⟨hw, hd⟩
    have hfd := fnd_is hFs hgi
    rw [hgn] at hfd
    unfold FdE at hd
    rw [by_bs, hfd] at hd
    rcases hd with ⟨h, _⟩ | ⟨k, X', h, hX', he⟩
    · cases h
    · injection h with h
      subst h
      rw [hXi] at hX'
      injection hX' with hX'
      subst hX'
      exact ⟨he, hw⟩
  obtain ⟨am, cm, aw, cw, pb, _, hXh, _⟩ := (hF.at' i g X hgi hXi).2
  have hxl := (Array.getElem?_eq_some_iff.1 hXh).1
  have x2 : w.cell? ⟨X, 2, none⟩ = some (.slice am g.more.length cm) := by simp [World.cell?, hXh]
  obtain ⟨w1, hw1⟩ : ∃ w1, w1 = w.alloc (.cells #[.int .i64 0, .int .i64 0] 36) := ⟨_, rfl⟩
  have hz1 : w1.heap[w.heap.size]? = some (.cells #[.int .i64 0, .int .i64 0] 36 (0, 0)) := by rw [hw1]; exact heap_alloc_new w _
  rw [← hw1] at hbA
  have y2 := (hbA.cell (p := ⟨X, 2, none⟩) hxl).trans x2
  have HB1 := hid hbA
  have HF1 := hid (HFD.out w1 hbA)
  obtain ⟨C, hC⟩ : ∃ C, C = w.heap.size := ⟨_, rfl⟩
  have HCC := hid hC
  rw [← hC] at hz1
  have c0 : w1.cell? ⟨C, 0, none⟩ = some (.int .i64 0) := by simp [World.cell?, hz1]
  have c1 : w1.cell? ⟨C, 1, none⟩ = some (.int .i64 0) := by simp [World.cell?, hz1]
  have f1 : ∀ i, w1.frozen? ⟨C, i, none⟩ = false := fun i => frozen_of_row w1 C i _ _ hz1
  have HZ1 := hid hz1
  have HNE := hid hne
  have q : ((na : Int) != (g.more.length : Int)) = true := by simp; omega
  clear hne
  obtain ⟨m, hm⟩ : ∃ m, m = g.more.length := ⟨_, rfl⟩
  have HMM := hid hm
  rw [← hm] at HNE q y2 ⊢
  generalize fs.length = nf at *
  clear hF hFs hgi hgn hXi hXh x2 hbA hm hz1 HFD
  go_enter Tryz.func12, Tryz.ntmps12
  go_wp2_with fail
  rw [← hw1, ← hC]
  clear hw1 hC
  refine HF1.out.mono ?_
  rintro en w9 ⟨rfl, hw9⟩
  have hw8 := hw9.symm
  subst hw8
  go_wp2_with fail
  obtain ⟨X1, hX1⟩ : ∃ X1, X1 = (w1.setCell ⟨C, 0, none⟩ (.int .i64 0)).setCell ⟨C, 1, none⟩ (.int .i64 0) := ⟨_, rfl⟩
  rw [← hX1]
  have e1 : X1.heap[C]? = some (.cells #[.int .i64 0, .int .i64 0] 36 (0, 0)) := by rw [hX1]; exact heap_setCell_same _ C 1 _ _ _ (heap_setCell_same _ C 0 _ _ _ HZ1.out)
  have hBX : Below w.heap.size w X1 := by rw [hX1]; exact (HB1.out.setCell (p := ⟨C, 0, none⟩) (Nat.le_of_eq HCC.out.symm) _).setCell (p := ⟨C, 1, none⟩) (Nat.le_of_eq HCC.out.symm) _
  have j0 : X1.cell? ⟨C, 0, none⟩ = some (.int .i64 0) := by simp [World.cell?, e1]
  have j1 : X1.cell? ⟨C, 1, none⟩ = some (.int .i64 0) := by simp [World.cell?, e1]
  have hE : RlR na m fuel w r (.returned (.tuple #[.agg #[.int .i64 0, .int .i64 0], .int .i64 2])) X1 := ⟨hBX, by rw [if_pos HNE.out]⟩
  clear hX1 e1 hBX c0 c1 f1 HZ1
  simp [bodyPost, results, Tryz.results12, go_sem, j0, j1]
  exact hE

set_option maxRecDepth 100000 in
set_option maxHeartbeats 2000000 in
theorem reval_range (p lo c i : Nat) (a : Option Addr) (fs : List FnT) (Xs : List Nat) (g : FnT) (w : World) (hF : RFl lo w a fs Xs) (hn : fs.length ≤ 4000) (hFs : FsOk fs) (hgi : fs[i]? = some g) (hgn : g.name = mainW) (aa : Option Addr) (ca na : Nat) (fuel : Int) (r : ER Int) (hne : na = g.more.length) (hfu : fuel < 0 ∨ 16384 < fuel) :
    Calls Tryz.prog 12 #[.int .i64 p, .slice a fs.length c, .slice aa na ca, .int .i64 fuel] w (RlR na g.more.length fuel w r) := by
  have hbA : Below w.heap.size w (w.alloc (.cells #[.int .i64 0, .int .i64 0] 36)) := (Below.refl _ w).alloc (Nat.le_refl _) _
  obtain ⟨X, hXi⟩ : ∃ X, Xs[i]? = some X := ⟨_, List.getElem?_eq_getElem (by rw [hF.len]; exact (List.getElem?_eq_some_iff.1 hgi).1)⟩
  have HFD : Hid (∀ W, Below w.heap.size w W → Calls Tryz.prog 20 #[.slice a fs.length c, .string ⟨#[109, 97, 105, 110]⟩] W fun e w' => e = .returned (.pointer (some ⟨X, 0, none⟩)) ∧ w' = W) := fun W hb => by
    rw [mainS]
    refine (rgfind_any lo c a fs Xs (bs mainW) W (hF.keep (Nat.le_refl _) (fun b _ hl => hb.block b hl)) (by omega)).mono ?_
    rintro en w' ⟨hw, hd⟩
    have hfd := fnd_is hFs hgi
    rw [hgn] at hfd
    unfold FdE at hd
    rw [by_bs, hfd] at hd
    rcases hd with ⟨h, _⟩ | ⟨k, X', h, hX', he⟩
    · cases h
    · injection h with h
      subst h
      rw [hXi] at hX'
      injection hX' with hX'
      subst hX'
      exact ⟨he, hw⟩
  obtain ⟨am, cm, aw, cw, pb, _, hXh, _⟩ := (hF.at' i g X hgi hXi).2
  have hxl := (Array.getElem?_eq_some_iff.1 hXh).1
  have x2 : w.cell? ⟨X, 2, none⟩ = some (.slice am g.more.length cm) := by simp [World.cell?, hXh]
  obtain ⟨w1, hw1⟩ : ∃ w1, w1 = w.alloc (.cells #[.int .i64 0, .int .i64 0] 36) := ⟨_, rfl⟩
  have hz1 : w1.heap[w.heap.size]? = some (.cells #[.int .i64 0, .int .i64 0] 36 (0, 0)) := by rw [hw1]; exact heap_alloc_new w _
  rw [← hw1] at hbA
  have y2 := (hbA.cell (p := ⟨X, 2, none⟩) hxl).trans x2
  have HB1 := hid hbA
  have HF1 := hid (HFD.out w1 hbA)
  obtain ⟨C, hC⟩ : ∃ C, C = w.heap.size := ⟨_, rfl⟩
  have HCC := hid hC
  rw [← hC] at hz1
  have c0 : w1.cell? ⟨C, 0, none⟩ = some (.int .i64 0) := by simp [World.cell?, hz1]
  have c1 : w1.cell? ⟨C, 1, none⟩ = some (.int .i64 0) := by simp [World.cell?, hz1]
  have f1 : ∀ i, w1.frozen? ⟨C, i, none⟩ = false := fun i => frozen_of_row w1 C i _ _ hz1
  have HZ1 := hid hz1
  have HNE := hid hne
  have q : ((na : Int) != (g.more.length : Int)) = false := by simp; omega
  have HFU := hid hfu
  clear hne hfu
  obtain ⟨m, hm⟩ : ∃ m, m = g.more.length := ⟨_, rfl⟩
  have HMM := hid hm
  rw [← hm] at HNE q y2 ⊢
  generalize fs.length = nf at *
  clear hF hFs hgi hgn hXi hXh x2 hbA hm hz1 HFD
  go_enter Tryz.func12, Tryz.ntmps12
  go_wp2_with fail
  rw [← hw1, ← hC]
  clear hw1 hC
  refine HF1.out.mono ?_
  rintro en w9 ⟨rfl, hw9⟩
  have hw8 := hw9.symm
  subst hw8
  rcases HFU.out with hl | hl
  · have ql : fuel < 0 := hl
    go_wp2_with fail
    obtain ⟨X1, hX1⟩ : ∃ X1, X1 = (w1.setCell ⟨C, 0, none⟩ (.int .i64 0)).setCell ⟨C, 1, none⟩ (.int .i64 0) := ⟨_, rfl⟩
    rw [← hX1]
    have e1 : X1.heap[C]? = some (.cells #[.int .i64 0, .int .i64 0] 36 (0, 0)) := by rw [hX1]; exact heap_setCell_same _ C 1 _ _ _ (heap_setCell_same _ C 0 _ _ _ HZ1.out)
    have hBX : Below w.heap.size w X1 := by rw [hX1]; exact (HB1.out.setCell (p := ⟨C, 0, none⟩) (Nat.le_of_eq HCC.out.symm) _).setCell (p := ⟨C, 1, none⟩) (Nat.le_of_eq HCC.out.symm) _
    have j0 : X1.cell? ⟨C, 0, none⟩ = some (.int .i64 0) := by simp [World.cell?, e1]
    have j1 : X1.cell? ⟨C, 1, none⟩ = some (.int .i64 0) := by simp [World.cell?, e1]
    have hE : RlR na m fuel w r (.returned (.tuple #[.agg #[.int .i64 0, .int .i64 0], .int .i64 3])) X1 := ⟨hBX, by rw [if_neg (by simp [HNE.out]), if_pos HFU.out]⟩
    clear hX1 e1 hBX c0 c1 f1 HZ1
    simp [bodyPost, results, Tryz.results12, go_sem, j0, j1]
    exact hE
  · have ql : ¬ fuel < 0 := by omega
    have ql2 : 16384 < fuel := hl
    go_wp2_with fail
    obtain ⟨X1, hX1⟩ : ∃ X1, X1 = (w1.setCell ⟨C, 0, none⟩ (.int .i64 0)).setCell ⟨C, 1, none⟩ (.int .i64 0) := ⟨_, rfl⟩
    rw [← hX1]
    have e1 : X1.heap[C]? = some (.cells #[.int .i64 0, .int .i64 0] 36 (0, 0)) := by rw [hX1]; exact heap_setCell_same _ C 1 _ _ _ (heap_setCell_same _ C 0 _ _ _ HZ1.out)
    have hBX : Below w.heap.size w X1 := by rw [hX1]; exact (HB1.out.setCell (p := ⟨C, 0, none⟩) (Nat.le_of_eq HCC.out.symm) _).setCell (p := ⟨C, 1, none⟩) (Nat.le_of_eq HCC.out.symm) _
    have j0 : X1.cell? ⟨C, 0, none⟩ = some (.int .i64 0) := by simp [World.cell?, e1]
    have j1 : X1.cell? ⟨C, 1, none⟩ = some (.int .i64 0) := by simp [World.cell?, e1]
    have hE : RlR na m fuel w r (.returned (.tuple #[.agg #[.int .i64 0, .int .i64 0], .int .i64 3])) X1 := ⟨hBX, by rw [if_neg (by simp [HNE.out]), if_pos HFU.out]⟩
    clear hX1 e1 hBX c0 c1 f1 HZ1
    simp [bodyPost, results, Tryz.results12, go_sem, j0, j1]
    exact hE

set_option maxRecDepth 100000 in
set_option maxHeartbeats 4000000 in
theorem reval_good (p lo c i F R : Nat) (a : Option Addr) (fs : List FnT) (Xs : List Nat) (g : FnT) (w : World) (hF : RFl lo w a fs Xs) (hn : fs.length ≤ 4000) (hFs : FsOk fs) (hFW : ∀ g, g ∈ fs → FW g) (hgi : fs[i]? = some g) (hgn : g.name = mainW) (h3 : 3 ≤ p) (h4 : p ≤ 2147483647) (aa : Option Addr) (ca na : Nat) (args : List Int) (hA : RowB w.heap.size w aa args) (hAb : ∀ j, -9223372036854775808 ≤ zat args j ∧ zat args j ≤ 9223372036854775807) (hna : na = args.length) (hne : na = g.more.length) (hfu : F ≤ 16384)
    (r : ER Int) (hr : r = evl p fs F R g.body (mnS p g.more args g.more.length) 0) (hro : r ≠ .out) :
    Calls Tryz.prog 12 #[.int .i64 p, .slice a fs.length c, .slice aa na ca, .int .i64 (F : Int)] w (RlR na g.more.length (F : Int) w r) := by
  have hmx : Tryz.prog.follows .mixedOrders = true := by kernel_rfl
  have hbA : Below w.heap.size w (w.alloc (.cells #[.int .i64 0, .int .i64 0] 36)) := (Below.refl _ w).alloc (Nat.le_refl _) _
  obtain ⟨X, hXi⟩ : ∃ X, Xs[i]? = some X := ⟨_, List.getElem?_eq_getElem (by rw [hF.len]; exact (List.getElem?_eq_some_iff.1 hgi).1)⟩
  have HFD : Hid (∀ W, Below w.heap.size w W → Calls Tryz.prog 20 #[.slice a fs.length c, .string ⟨#[109, 97, 105, 110]⟩] W fun e w' => e = .returned (.pointer (some ⟨X, 0, none⟩)) ∧ w' = W) := fun W hb => by
    rw [mainS]
    refine (rgfind_any lo c a fs Xs (bs mainW) W (hF.keep (Nat.le_refl _) (fun b _ hl => hb.block b hl)) (by omega)).mono ?_
    rintro en w' ⟨hw, hd⟩
    have hfd := fnd_is hFs hgi
    rw [hgn] at hfd
    unfold FdE at hd
    rw [by_bs, hfd] at hd
    rcases hd with ⟨h, _⟩ | ⟨k, X', h, hX', he⟩
    · cases h
    · injection h with h
      subst h
      rw [hXi] at hX'
      injection hX' with hX'
      subst hX'
      exact ⟨he, hw⟩
  obtain ⟨am, cm, aw, cw, pb, _, hXh, _⟩ := (hF.at' i g X hgi hXi).2
  have hxl := (Array.getElem?_eq_some_iff.1 hXh).1
  have x2 : w.cell? ⟨X, 2, none⟩ = some (.slice am g.more.length cm) := by simp [World.cell?, hXh]
  obtain ⟨w1, hw1⟩ : ∃ w1, w1 = w.alloc (.cells #[.int .i64 0, .int .i64 0] 36) := ⟨_, rfl⟩
  have hz1 : w1.heap[w.heap.size]? = some (.cells #[.int .i64 0, .int .i64 0] 36 (0, 0)) := by rw [hw1]; exact heap_alloc_new w _
  rw [← hw1] at hbA
  have y2 := (hbA.cell (p := ⟨X, 2, none⟩) hxl).trans x2
  have HB1 := hid hbA
  have HF1 := hid (HFD.out w1 hbA)
  obtain ⟨C, hC⟩ : ∃ C, C = w.heap.size := ⟨_, rfl⟩
  have HCC := hid hC
  rw [← hC] at hz1
  have c0 : w1.cell? ⟨C, 0, none⟩ = some (.int .i64 0) := by simp [World.cell?, hz1]
  have c1 : w1.cell? ⟨C, 1, none⟩ = some (.int .i64 0) := by simp [World.cell?, hz1]
  have f1 : ∀ i, w1.frozen? ⟨C, i, none⟩ = false := fun i => frozen_of_row w1 C i _ _ hz1
  have HZ1 := hid hz1
  obtain ⟨w2, hw2⟩ : ∃ w2, w2 = w1.alloc (.cells #[.int .i64 p, .slice a fs.length c, .int .i64 (F : Int), .int .i64 0, .int .i64 0] 100) := ⟨_, rfl⟩
  obtain ⟨V, hV⟩ : ∃ V, V = w1.heap.size := ⟨_, rfl⟩
  have hb2 : Below w1.heap.size w1 w2 := by rw [hw2]; exact (Below.refl _ w1).alloc (Nat.le_refl _) _
  have hR2 : ReAt w2 V p a fs.length c F 0 0 := by rw [hw2, hV]; exact heap_alloc_new w1 _
  have hb02 : Below w.heap.size w w2 := hbA.trans (hb2.mono hbA.size)
  have hVw : w.heap.size < V := by rw [hV, hw1]; simp
  have hC2 : ECx V a fs Xs w2 := hF.ecx hb02 (Nat.le_of_lt hVw)
  have HCL := hid (rcl_any V p fs.length c F R a fs Xs h3 h4 (lok_all V p fs.length c F a fs Xs h3 h4 (by omega) rfl hn hFs hFW R) Unit (.val () 0) g X aa ca na args w2 ⟨hR2, Nat.zero_le _⟩ hC2 (hC2.fn i g X hgi hXi).2 (hFW g (List.mem_of_getElem? hgi)).2.2.2 (fun k hk => by
    obtain ⟨b, o, h1, h2, h5⟩ := hA k hk
    exact ⟨b, o, h1, by omega, (hb02.cell (p := ⟨b, o + k, none⟩) h2).trans h5⟩) hAb hna (hna.symm.trans hne) (hFW g (List.mem_of_getElem? hgi)).2.2.1 (by rw [mnS_names p g.more args _ (Nat.le_refl _), List.take_length]; exact ckw_none (hFs i g hgi).2) r hr hro)
  have hz2 : w2.heap[C]? = some (.cells #[.int .i64 0, .int .i64 0] 36 (0, 0)) := (hb2.block _ (Array.getElem?_eq_some_iff.1 hz1).1).trans hz1
  have HZ2 := hid hz2
  have HB02 := hid hb02
  have HCV : Hid (¬ C = V) := by unfold Hid; omega
  have HVW := hid hVw
  have HNE := hid hne
  have HFU := hid hfu
  have q : ((na : Int) != (g.more.length : Int)) = false := by simp; omega
  have ql : ¬ (F : Int) < 0 := by omega
  have ql2 : ¬ 16384 < (F : Int) := by omega
  clear hne hr hro hA hAb hna hfu hR2 hC2 hb02 hVw hb2 hz2 hFW
  obtain ⟨m, hm⟩ : ∃ m, m = g.more.length := ⟨_, rfl⟩
  rw [← hm] at HNE q y2 ⊢
  generalize fs.length = nf at *
  clear hF hFs hgi hgn hXi hXh x2 hbA hm hz1 HFD
  go_enter Tryz.func12, Tryz.ntmps12
  go_wp2_with fail
  rw [← hw1, ← hC]
  clear hw1 hC
  refine HF1.out.mono ?_
  rintro en w9 ⟨rfl, hw9⟩
  have hw8 := hw9.symm
  subst hw8
  go_wp2_with fail
  rw [← hw2, ← hV]
  clear hw2 hV c0 c1 f1 y2
  refine HCL.out.mono ?_
  rintro en w3 ⟨z, rfl, hzb, hf, hm, hv⟩
  have hz3 : w3.heap[C]? = some (.cells #[.int .i64 0, .int .i64 0] 36 (0, 0)) := (hf.2 C (Array.getElem?_eq_some_iff.1 HZ2.out).1 HCV.out).trans HZ2.out
  have c0 : w3.cell? ⟨C, 0, none⟩ = some (.int .i64 0) := by simp [World.cell?, hz3]
  have c1 : w3.cell? ⟨C, 1, none⟩ = some (.int .i64 0) := by simp [World.cell?, hz3]
  have f1 : ∀ i, w3.frozen? ⟨C, i, none⟩ = false := fun i => frozen_of_row w3 C i _ _ hz3
  have HZ3 := hid hz3
  have HB3 : Hid (Below w.heap.size w w3) := HB02.out.trans (hf.1.mono (Nat.le_of_lt HVW.out))
  have hCV := HCV.out
  cases r with
  | out => exact hm.elim
  | val x k =>
    obtain ⟨hR3, _⟩ := hm
    have hzx := hv x k rfl
    subst hzx
    have v3 := hR3.c3
    have v4 := hR3.c4
    clear hv hf hz3 hR3
    go_wp2_with fail
    obtain ⟨X1, hX1⟩ : ∃ X1, X1 = (w3.setCell ⟨C, 0, none⟩ (.int .i64 z)).setCell ⟨C, 1, none⟩ (.int .i64 (k : Int)) := ⟨_, rfl⟩
    rw [← hX1]
    have e1 : X1.heap[C]? = some (.cells #[.int .i64 z, .int .i64 (k : Int)] 36 (0, 0)) := by rw [hX1]; exact heap_setCell_same _ C 1 _ _ _ (heap_setCell_same _ C 0 _ _ _ HZ3.out)
    have hBX : Below w.heap.size w X1 := by rw [hX1]; exact (HB3.out.setCell (p := ⟨C, 0, none⟩) (Nat.le_of_eq HCC.out.symm) _).setCell (p := ⟨C, 1, none⟩) (Nat.le_of_eq HCC.out.symm) _
    have j0 : X1.cell? ⟨C, 0, none⟩ = some (.int .i64 z) := by simp [World.cell?, e1]
    have j1 : X1.cell? ⟨C, 1, none⟩ = some (.int .i64 (k : Int)) := by simp [World.cell?, e1]
    have hE : RlR na m (F : Int) w (.val z k) (.returned (.tuple #[.agg #[.int .i64 z, .int .i64 (k : Int)], .int .i64 0])) X1 := ⟨hBX, by rw [if_neg (by simp [HNE.out]), if_neg (by have := HFU.out; omega)]⟩
    clear hX1 e1 hBX c0 c1 f1 HZ3
    simp [bodyPost, results, Tryz.results12, go_sem, j0, j1]
    exact hE
  | stop er =>
    obtain ⟨he0, k, hR3⟩ := hm
    have v4 := hR3.c4
    have b4 : ((er : Int) != 0) = true := by simp; omega
    have HE0 := hid he0
    clear hv hf hz3 hR3 he0
    go_wp2_with fail
    clear hmx
    refine wp_region_held_drew (S := (fun W => W.cell? ⟨V, 4, none⟩ = some (.int .i64 (er : Int)) ∧ W.heap[C]? = some (.cells #[.int .i64 0, .int .i64 0] 36 (0, 0)))) (by kernel_rfl) ⟨v4, HZ3.out⟩ (fun hHeld => ?_)
    refine wpAnyH_takeS (i := 0) (v := .agg #[.int .i64 0, .int .i64 0]) rfl (by kernel_rfl) (by kernel_rfl) (by kernel_rfl) (fun _ _ _ h => h) (by rfl) (fun W hC => by go_simp) hHeld ?_
    simp only [Act.put, List.setIfInBounds_toArray, List.set_cons_zero, List.set_cons_succ]
    refine wpAnyH_takeS (i := 1) (v := .pointer (some ⟨V, 0, none⟩)) rfl (by kernel_rfl) (by kernel_rfl) (by kernel_rfl) (fun _ _ _ h => h) (by rfl) (fun W hC => by go_simp) hHeld ?_
    simp only [Act.put, List.setIfInBounds_toArray, List.set_cons_zero, List.set_cons_succ]
    refine wpAnyH_takeS (i := 2) (v := .pointer (some ⟨V, 0, none⟩)) rfl (by kernel_rfl) (by kernel_rfl) (by kernel_rfl) (fun _ _ _ h => h) (by rfl) (fun W hC => by go_simp) hHeld ?_
    simp only [Act.put, List.setIfInBounds_toArray, List.set_cons_zero, List.set_cons_succ]
    refine wpAnyH_takeS (i := 3) (v := .pointer (some ⟨V, 4, none⟩)) rfl (by kernel_rfl) (by kernel_rfl) (by kernel_rfl) (fun _ _ _ h => h) (by rfl) (fun W hC => by go_simp) hHeld ?_
    simp only [Act.put, List.setIfInBounds_toArray, List.set_cons_zero, List.set_cons_succ]
    refine wpAnyH_takeS (i := 4) (v := .int .i64 (er : Int)) rfl (by kernel_rfl) (by kernel_rfl) (by kernel_rfl) (fun _ _ _ h => h) (by rfl) (fun W hC => by (obtain ⟨y0, y1⟩ := hC); go_simp) hHeld ?_
    simp only [Act.put, List.setIfInBounds_toArray, List.set_cons_zero, List.set_cons_succ]
    obtain ⟨X1, hX1⟩ : ∃ X1, X1 = ((w3.setCell ⟨C, 0, none⟩ (.int .i64 0)).setCell ⟨C, 1, none⟩ (.int .i64 0)).drew := ⟨_, rfl⟩
    have e1 : X1.heap[C]? = some (.cells #[.int .i64 0, .int .i64 0] 36 (0, 0)) := by rw [hX1]; exact heap_setCell_same _ C 1 _ _ _ (heap_setCell_same _ C 0 _ _ _ HZ3.out)
    have hBX : Below w.heap.size w X1 := by rw [hX1]; exact ((HB3.out.setCell (p := ⟨C, 0, none⟩) (Nat.le_of_eq HCC.out.symm) _).setCell (p := ⟨C, 1, none⟩) (Nat.le_of_eq HCC.out.symm) _).drew
    have j0 : X1.cell? ⟨C, 0, none⟩ = some (.int .i64 0) := by simp [World.cell?, e1]
    have j1 : X1.cell? ⟨C, 1, none⟩ = some (.int .i64 0) := by simp [World.cell?, e1]
    have hE : RlR na m (F : Int) w (.stop er) (.returned (.tuple #[.agg #[.int .i64 0, .int .i64 0], .int .i64 (er : Int)])) X1 := ⟨hBX, by rw [if_neg (by simp [HNE.out]), if_neg (by have := HFU.out; omega)]; exact ⟨rfl, HE0.out⟩⟩
    refine wpAnyH_ready (rs := [5]) (by kernel_rfl) (by simp) ?_
    refine AllReadyH.consS rfl (fun K hK => ?_) AllReadyH.nil
    go_simp
    rw [← hX1]
    have k4 : X1.cell? ⟨V, 4, none⟩ = some (.int .i64 (er : Int)) := by rw [hX1]; exact ((((Fr.refl C w3).set 0 _).set 1 _).drew).cell (fun e => hCV e.symm) v4
    refine hK.out _ _ ⟨k4, e1⟩ (fun hHeld => ?_)
    clear hK K hX1
    refine wpAnyH_ready (rs := [6]) (by kernel_rfl) (by simp) ?_
    refine AllReadyH.consS rfl (fun K hK => ?_) AllReadyH.nil
    go_simp
    refine hK.out _ _ hHeld (fun _ => ?_)
    clear hK K hHeld
    refine wpAnyH_done (by kernel_rfl) ?_ _
    clear e1 hBX c0 c1 f1 HZ3 k4 v4
    go_wp2_with fail
    simp [bodyPost, results, Tryz.results12, go_sem, j0, j1]
    exact hE

theorem rfeval_any (p lo c i R : Nat) (a : Option Addr) (fs : List FnT) (Xs : List Nat) (g : FnT) (w : World) (hF : RFl lo w a fs Xs) (hn : fs.length ≤ 4000) (hFs : FsOk fs) (hFW : ∀ g, g ∈ fs → FW g) (hgi : fs[i]? = some g) (hgn : g.name = mainW) (h3 : 3 ≤ p) (h4 : p ≤ 2147483647) (aa : Option Addr) (ca na : Nat) (args : List Int) (hA : RowB w.heap.size w aa args) (hAb : Fits args) (hna : na = args.length) (fuel : Int) (hR : fuel.toNat + 1 ≤ R) :
    Calls Tryz.prog 12 #[.int .i64 p, .slice a fs.length c, .slice aa na ca, .int .i64 fuel] w (RlR na g.more.length fuel w (evE p fs g args fuel R)) := by
  by_cases hne : na = g.more.length
  · by_cases hfu : fuel < 0 ∨ 16384 < fuel
    · exact reval_range p lo c i a fs Xs g w hF hn hFs hgi hgn aa ca na fuel _ hne hfu
    · obtain ⟨F, rfl⟩ := Int.eq_ofNat_of_zero_le (show 0 ≤ fuel by omega)
      refine reval_good p lo c i F R a fs Xs g w hF hn hFs hFW hgi hgn h3 h4 aa ca na args hA (fun j => ?_) hna hne (by omega) _ ?_ (evE_out p fs i g args _ R hR h3 hFs hFW hgi)
      · by_cases hj : j < args.length
        · exact hAb j hj
        · have : zat args j = 0 := by unfold zat; rw [List.getElem?_eq_none (by omega)]; rfl
          rw [this]; omega
      · unfold evE
        rw [Int.toNat_natCast]
  · exact reval_size p lo c i a fs Xs g w hF hn hFs hgi hgn aa ca na fuel _ hne

end Go.Proofs.YtlgcmeachjjmgajGreatDoor
