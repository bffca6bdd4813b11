/- Package gates, on the way down: seen. -/
import Derived.Test.YtpgnabmkfkcogaaGreatDoorGqAU
import Derived.Test.YtpgnabmkfkcogaaGreatDoorGqAX
import Derived.Test.YtpgnabmkfkcogaaGreatDoorGuD
import Derived.Maps.AppendAt
namespace Go.Proofs.YtpgnabmkfkcogaaGreatDoor
open Go.RowKit

theorem InT.upto {p b N0 : Nat} {w W : World} (h : InT p b w) (e : Below N0 w W) (hb : b < N0) (ht : 2 < N0) : InT p b W :=
  ⟨⟨h.pr, h.h3, h.hm, (e.cell (p := ⟨b, 0, none⟩) hb).trans h.cell⟩, fun j hj => (e.cell (p := ⟨2, j, none⟩) ht).trans (h.tab j hj)⟩
theorem PCh.notI {N0 q n c : Nat} {w : World} {D : List Int} (h : PCh N0 q n w c D) : ∀ (cs : Array Value) (f : Nat × Nat), w.heap[c]? ≠ some (.cells cs 3 f) := fun cs f e => by
  obtain ⟨_, _, _, _, _, _, _, _, h⟩ := h
  rw [h] at e
  simp at e
theorem gb_farU {W3 W : World} {B A : Nat} (h : W3.grownBy W (some B)) (hA : W3.heap.size ≤ A) (i : Nat) (v : Value) : W3.grownBy (W.setCell ⟨A, i, none⟩ v) (some B) :=
  ⟨h.os, h.tape, h.output, by simpa [World.setCell] using h.size, fun k hk hne => (Below.heap_setCell _ _ _ _ (by show k ≠ A; omega)).trans (h.block k hk hne)⟩
theorem hao (w : World) (o : Obj) {i : Nat} (h : i < w.heap.size) : (w.alloc o).heap[i]? = w.heap[i]? := ((Below.refl w.heap.size w).alloc (Nat.le_refl _) o).block i h
theorem arr_num {w : World} {g n : Nat} {l : List Int} (h : ArrI w g 3 n (zat l)) (hl : l.length = n) : NumL w (some ⟨g, 0, none⟩) n l :=
  ⟨⟨fun k hk => ⟨g, 0, rfl, h.lt, by rw [Nat.zero_add]; exact h.cell (by omega)⟩, by omega, fun e => by cases e⟩, fun _ => ⟨g, 0, _, _, rfl, h.heap⟩⟩
theorem GlO.no_size {q n m : Nat} {gs : List GatZ} {rs : List (List Int)} {line : List Int} {s : GSt} (h : ¬ (rs.length = 2 * m ∧ line.length = m + 1)) : ¬ GlO q n m gs rs line s := fun k => h k.1
theorem gcs_b {q : Nat} (h3 : 3 ≤ q) (h4 : q ≤ 2147483647) {n : Nat} {rs : List (List Int)} {D : List Int} {c : Int} (hc : i64B c) : ∀ k, i64B (gcs q n rs D c k)
  | 0 => hc
  | _ + 1 => atz_fits h3 h4 _ _
theorem run_app1 {W : World} {base g : Nat} {v : Value} {zs : List Int} {y : Int} (hown : W.ownsRow base 3 1 v zs.length (zs.map (Value.int .i64))) (hc : W.cell? ⟨g, 0, none⟩ = some (.int .i64 y)) (hlen : zs.length ≤ 17592186044000) (hbase : base ≤ W.heap.size) :
    ∃ v' w5, (Builtin.append_ #[23, 23] 23 #[v, .slice (some ⟨g, 0, none⟩) 1 1]).run Tryz.prog W = .ok v' w5 ∧ w5.ownsRow base 3 1 v' (zs ++ [y]).length ((zs ++ [y]).map (Value.int .i64)) ∧ Below base W w5 := by
  obtain ⟨i0, hi0, hz0, hz1, hz2⟩ := info_parts Tryz.infoInt
  obtain ⟨v', w5, hrun, hown2, hgrow, _, _⟩ := run_append_own_at W base 23 23 3 i0 _ 1 8 Tryz.underlying23 hi0 hz0 hz1 hz2 rfl (by decide) v _ _ hown ⟨g, 0, none⟩ 1 1 [.int .i64 y] rfl (by
    intro j u hj
    match j, hj with
    | 0, hj => simp at hj; subst hj; exact hc
    | j + 1, hj => simp at hj) (by intro u hu; simp at hu; subst hu; rfl) (by unfold maxLen; omega) (by omega) hbase
  refine ⟨v', w5, hrun, ?_, (Below.refl base W).grown hgrow hbase (fun k hk => (hown.lt k hk).1)⟩
  rw [List.length_append, List.map_append]
  exact hown2
theorem gxs_succ (q n : Nat) (rs : List (List Int)) (D : List Int) (k : Nat) : gxs q n rs D (k + 1) = gxs q n rs D k ++ [zat (gds q n rs D (k + 1)) 0] := ls_succ _ _

set_option maxRecDepth 100000 in
set_option maxHeartbeats 8000000 in
theorem seen_any (N0 q n c b m cg cz cr cl : Nat) (ag az ar al : Option Addr) (gs : List GatZ) (rs : List (List Int)) (line : List Int) (s : GSt) (w : World) (h23 : 23 ≤ q) (hIT : InT q b w) (hbN : b < N0) (hP : PCh N0 q n w c s.D) (hD : Dig s.D) (hm6 : m ≤ 6) (hg : LstG N0 w ag cg gs) (hgl : gs.length ≤ 64) (ho : ∀ k, k < gs.length → 0 ≤ (gat gs k).a ∧ 0 ≤ (gat gs k).b) (hz : s.z.length ≤ 6) (fz : Fits s.z) (nz : NumL w az cz s.z) (hrs : LstR N0 w ar cr rs) (hrb : rs.length ≤ 5864062014634 ∧ ∀ k, k < rs.length → (rat rs k).length ≤ 17592186043904) (frs : ∀ k, k < rs.length → Fits (rat rs k)) (hl : Lst N0 w al cl line) (hlb : line.length ≤ 17592186043904) (fl : Fits line) (hc : i64B s.c)  (htN : 2 < N0) :
    Calls Tryz.prog 94 #[.agg #[.pointer (some ⟨b, 0, none⟩), .slice ag gs.length cg, .int .i64 (m : Int)], .pointer (some ⟨c, 0, none⟩), .agg #[.slice az s.z.length cz, .int .i64 s.c], .slice ar rs.length cr, .slice al line.length cl] w fun e w' => (GlO q n m gs rs line s → ∃ a' c', e = .returned (.tuple #[.agg #[.slice a' m c', .int .i64 (gnx q n m rs line s).c], .bool true]) ∧ NumL w' a' c' (gnx q n m rs line s).z ∧ PCh N0 q n w' c (gnx q n m rs line s).D) ∧ (¬ GlO q n m gs rs line s → e = .returned (.tuple #[.agg #[.slice none 0 0, .int .i64 0], .bool false])) ∧ w.grownBy w' (some c) := by
  have h3 : 3 ≤ q := hIT.h3
  have h4 : q ≤ 2147483647 := hIT.hm
  have hcl := hP.lt
  have hcN := hP.ge
  have HCN := hid hcN
  obtain ⟨ng, hng⟩ : ∃ ng, ng = gs.length := ⟨_, rfl⟩
  obtain ⟨nr, hnr⟩ : ∃ nr, nr = rs.length := ⟨_, rfl⟩
  obtain ⟨nl, hnl⟩ : ∃ nl, nl = line.length := ⟨_, rfl⟩
  obtain ⟨nzz, hnz⟩ : ∃ nzz, nzz = s.z.length := ⟨_, rfl⟩
  obtain ⟨W1, hW1⟩ : ∃ W1, W1 = ((w.alloc (.cells #[.pointer (some ⟨b, 0, none⟩), .slice ag ng cg, .int .i64 (m : Int)] 149)).alloc (.cells #[.slice az nzz cz, .int .i64 s.c] 164)).alloc (.cells #[.slice none 0 0, .int .i64 0] 164) := ⟨_, rfl⟩
  obtain ⟨G, hG⟩ : ∃ G, G = w.heap.size := ⟨_, rfl⟩
  obtain ⟨N, hN⟩ : ∃ N, N = w.heap.size + 1 := ⟨_, rfl⟩
  obtain ⟨R, hR⟩ : ∃ R, R = w.heap.size + 2 := ⟨_, rfl⟩
  have hb1 : Below w.heap.size w W1 := by rw [hW1]; exact (((Below.refl _ _).alloc (Nat.le_refl _) _).alloc (by simp) _).alloc (by simp; omega) _
  have hz1 : W1.heap.size = w.heap.size + 3 := by rw [hW1]; simp
  have hs1 : W1.heap[G]? = some (.cells #[.pointer (some ⟨b, 0, none⟩), .slice ag ng cg, .int .i64 (m : Int)] 149 (0, 0)) := by
    rw [hW1, hG]
    exact (hao _ _ (by simp; omega)).trans ((hao _ _ (by simp)).trans (heap_alloc_new w _))
  have hs2 : W1.heap[N]? = some (.cells #[.slice az nzz cz, .int .i64 s.c] 164 (0, 0)) := by
    rw [hW1, hN]
    refine (hao _ _ (by simp)).trans ?_
    have := heap_alloc_new (w.alloc (.cells #[.pointer (some ⟨b, 0, none⟩), .slice ag ng cg, .int .i64 (m : Int)] 149)) (.cells #[.slice az nzz cz, .int .i64 s.c] 164)
    simpa using this
  have hs3 : W1.rowIs R 164 2 (dub (.slice none 0 0) (.int .i64 0)) := by
    rw [hW1, hR]
    have := dub_new ((w.alloc (.cells #[.pointer (some ⟨b, 0, none⟩), .slice ag ng cg, .int .i64 (m : Int)] 149)).alloc (.cells #[.slice az nzz cz, .int .i64 s.c] 164)) 164 (.slice none 0 0) (.int .i64 0)
    simpa using this
  have hR1 : R < W1.heap.size := by omega
  have HGW : Hid (∀ W, W1.grownBy W (some c) → w.grownBy W (some c)) := fun W hW => gb_trans (gb_below hb1) hW
  have HRB : Hid (∀ W, W1.grownBy W (some c) → W.rowIs R 164 2 (dub (.slice none 0 0) (.int .i64 0))) := fun W hW => World.rowIs.of_block hs3 (gb_blk hW hR1 (by omega))
  have HCL : Hid (∀ W, W1.grownBy W (some c) → W.cell? ⟨G, 0, none⟩ = some (.pointer (some ⟨b, 0, none⟩)) ∧ W.cell? ⟨G, 1, none⟩ = some (.slice ag ng cg) ∧ W.cell? ⟨G, 2, none⟩ = some (.int .i64 (m : Int))) := fun W hW => by
    have e := (gb_blk hW (Array.getElem?_eq_some_iff.1 hs1).1 (by omega)).trans hs1
    exact ⟨by simp [World.cell?, e], by simp [World.cell?, e], by simp [World.cell?, e]⟩
  have HCM : Hid (∀ W, W1.grownBy W (some c) → W.cell? ⟨N, 0, none⟩ = some (.slice az nzz cz) ∧ W.cell? ⟨N, 1, none⟩ = some (.int .i64 s.c)) := fun W hW => by
    have e := (gb_blk hW (Array.getElem?_eq_some_iff.1 hs2).1 (by omega)).trans hs2
    exact ⟨by simp [World.cell?, e], by simp [World.cell?, e]⟩
  have HBN : Hid (∀ W, W1.grownBy W (some c) → Below N0 w W) := fun W hW => gb_to (HGW.out W hW) hcN (by omega)
  have HIT : Hid (∀ W, W1.grownBy W (some c) → InT q b W) := fun W hW => hIT.upto (HBN.out W hW) hbN htN
  have HNZ : Hid (∀ W, W1.grownBy W (some c) → NumL W az cz s.z) := fun W hW => nz.other (HGW.out W hW) hP.notI
  have HGS : Hid (∀ W, W1.grownBy W (some c) → LstG W.heap.size W ag cg gs) := fun W hW => (hg.below (HBN.out W hW)).mono (by have := hW.size; omega)
  have HLI : Hid (∀ W, W1.grownBy W (some c) → Lst W.heap.size W al cl line) := fun W hW => (hl.below (HBN.out W hW)).mono (by have := hW.size; omega)
  have HRW : Hid (∀ k, k < nr → ∃ br or' ak ck, ar = some ⟨br, or', none⟩ ∧ (∀ W, W1.grownBy W (some c) → W.cell? ⟨br, or' + k, none⟩ = some (.slice ak (rat rs k).length ck) ∧ Lst W.heap.size W ak ck (rat rs k))) := fun k hk => by
    obtain ⟨br, or', ak, ck, e1, e2, e3, e4⟩ := hrs.row k (by omega)
    exact ⟨br, or', ak, ck, e1, fun W hW => ⟨((HBN.out W hW).cell (p := ⟨br, or' + k, none⟩) e2).trans e3, (e4.below (HBN.out W hW)).mono (by have := hW.size; omega)⟩⟩
  have HP1 : Hid (PCh N0 q n W1 c s.D) := hP.below hb1
  have HDG : Hid (∀ k, Dig (gds q n rs s.D k)) := dig_gds h3 h4 n rs hD
  have HDD : Hid (Dig s.D) := hD
  have HFR : Hid (∀ k, k < nr → Fits (rat rs k) ∧ (rat rs k).length ≤ 17592186043904) := fun k hk => ⟨frs k (by omega), hrb.2 k (by omega)⟩
  have HLN : Hid (Fits line ∧ line.length ≤ 17592186043904) := ⟨fl, hlb⟩
  have HZZ : Hid (Fits s.z ∧ s.z.length ≤ 6) := ⟨fz, hz⟩
  have HOO := hid ho
  have hrn : nr ≤ 5864062014634 := by omega
  have hln : nl ≤ 17592186043904 := by omega
  have HNN : Hid (nr = rs.length ∧ nl = line.length ∧ nzz = s.z.length ∧ ng = gs.length) := ⟨hnr, hnl, hnz, hng⟩
  have HW1 := hid hW1
  have HGE := hid hG
  have HNE := hid hN
  have HRE := hid hR
  have HRX : Hid (W1.heap.size = w.heap.size + 3) := hz1
  have HG1 : Hid (∀ W, W1.grownBy W (some c) → w.heap.size + 3 ≤ W.heap.size) := fun W hW => by have := hW.size; omega
  have HPR := hid hIT.pr
  have HCS : Hid (i64B s.c) := hc
  rw [← hng, ← hnr, ← hnl, ← hnz]
  clear hP hD hg ho hz fz nz hrs hrb frs hl hlb fl hc hIT hnr hnl hnz hng hs1 hs2 hs3 hb1 hz1 hW1 hG hN hR hcN
  have hw2 : IntKind.i64.wrap (2 * (m : Int)) = 2 * (m : Int) := by rw [IntKind.wrap_i64]; omega
  have hw1 : IntKind.i64.wrap ((m : Int) + 1) = (m : Int) + 1 := by rw [IntKind.wrap_i64]; omega
  by_cases hsz : nr = 2 * m ∧ nl = m + 1
  rotate_left
  · have HNO : Hid (¬ GlO q n m gs rs line s) := GlO.no_size (by rw [← HNN.out.1, ← HNN.out.2.1]; exact hsz)
    have HGF : Hid (W1.grownBy W1 (some c)) := gb_refl _ _
    have hdec : ((nr : Int) != 2 * (m : Int)) = true ∨ (((nr : Int) != 2 * (m : Int)) = false ∧ ((nl : Int) != (m : Int) + 1) = true) := by
      by_cases hr : nr = 2 * m
      · exact Or.inr ⟨by simp; omega, by simp; omega⟩
      · exact Or.inl (by simp; omega)
    clear hsz
    rcases hdec with t1 | ⟨t1, t2⟩
    all_goals
      go_enter Tryz.func94, Tryz.ntmps94
      go_wp2_with fail
      rw [← HRE.out, ← HW1.out]
      have HRR := hid (HRB.out _ HGF.out)
      have r0 := HRR.out.cell (i := 0) (by decide)
      have r1 := HRR.out.cell (i := 1) (by decide)
      have y0 := HRR.out.frozen 0
      have y1 := HRR.out.frozen 1
      simp only [dub] at r0 r1
      have HFI := hid (dub_arr HRR.out)
      refine bodyPost_ret (results_ctb rfl _ _ R 164 _ (0, 0) _ rfl HFI.out Tryz.underlying164 rfl (by kernel_rfl)) rfl ?_
      refine ⟨fun h => absurd h HNO.out, fun _ => rfl, ?_⟩
      exact HGW.out _ HGF.out
  obtain ⟨e1, e2⟩ := hsz
  have HS1 := hid e1
  have HS2 := hid e2
  have t1 : ((nr : Int) != 2 * (m : Int)) = false := by simp; omega
  have t2 : ((nl : Int) != (m : Int) + 1) = false := by simp; omega
  clear e1 e2
  go_enter Tryz.func94, Tryz.ntmps94
  go_wp2_with fail
  rw [← HRE.out, ← HNE.out, ← HGE.out, ← HW1.out]
  clear t1 t2
  go_loopw [12, 13, 15, 16, 39] (fun dv cv _ _ iv wr => ∃ k : Nat, k ≤ nr ∧ iv = .int .i64 (k : Int) ∧ ∃ C : Int, cv = .int .i64 C ∧ Hid (C = gcs q n rs s.D s.c k) ∧ Hid (∀ j, j < k → GrO q n rs s j) ∧ Hid (wr.ownsRow W1.heap.size 3 1 dv (gxs q n rs s.D k).length ((gxs q n rs s.D k).map (Value.int .i64)) ∧ PCh N0 q n wr c (gds q n rs s.D k) ∧ W1.grownBy wr (some c))) (fun _ _ _ _ iv _ => nr - (intOf iv).toNat)
  case atStart => exact ⟨0, Nat.zero_le _, rfl, s.c, rfl, rfl, fun j hj => absurd hj (Nat.not_lt_zero _), World.ownsRow_nil _ _ _ _, HP1.out, gb_refl _ _⟩
  case round =>
    obtain ⟨k, hk, rfl, C, rfl, hC, hAll, hI⟩ := hrel
    have HGR := hid hI.out.2.2
    obtain ⟨k0, k1, k2⟩ := HCL.out wr HGR.out
    by_cases hlt : k < nr
    · have hlt2 : (k : Int) < (nr : Int) := by omega
      have hks : IntKind.i64.wrap ((k : Int) + 1) = (k : Int) + 1 := by rw [IntKind.wrap_i64]; omega
      obtain ⟨br, or', ak, ck, rfl, hrw⟩ := HRW.out k hlt
      have HRWK := hid hrw
      have HGD : Hid (W1.grownBy wr.drew (some c)) := gb_trans HGR.out (gb_below (Below.refl _ _).drew)
      have c1 := (HRWK.out wr HGR.out).1
      obtain ⟨hfk, hlk⟩ := HFR.out k hlt
      have HFK := hid hfk
      have HO := hid hI.out.1
      have HPK := hid hI.out.2.1
      by_cases h3l : (rat rs k).length = 3
      rotate_left
      · have HNO : Hid (¬ GlO q n m gs rs line s) := fun h => h3l (h.2.1 k (by have := HS1.out; omega)).1
        obtain ⟨nk, hnk⟩ : ∃ nk, nk = (rat rs k).length := ⟨_, rfl⟩
        rw [← hnk] at c1
        have t3 : ((nk : Int) != 3) = true := by simp; omega
        have HGF : Hid (W1.grownBy wr.drew (some c)) := HGD
        clear hI hrw hfk hlk h3l hnk hC hAll HO HPK
        go_wp2_with fail
        refine wp_region_held_drew (S := fun W => (W.cell? ⟨G, 0, none⟩ = some (.pointer (some ⟨b, 0, none⟩)) ∧ W.cell? ⟨G, 1, none⟩ = some (.slice ag ng cg) ∧ W.cell? ⟨G, 2, none⟩ = some (.int .i64 (m : Int)))) (by kernel_rfl) (HCL.out _ HGD.out) (fun hHeld => ?_)
        refine wpAnyH_takeU (i := 0) (v := .slice ak nk ck) rfl (by kernel_rfl) (by kernel_rfl) (by kernel_rfl) (fun _ _ _ h => h) (by rfl) (fun W hC => by go_simp) hHeld ?_
        simp only [Act.put, List.setIfInBounds_toArray, List.set_cons_zero, List.set_cons_succ]
        refine wpAnyH_takeU (i := 1) (v := .int .i64 (nk : Int)) rfl (by kernel_rfl) (by kernel_rfl) (by kernel_rfl) (fun _ _ _ h => h) (by rfl) (fun W hC => by go_simp) hHeld ?_
        simp only [Act.put, List.setIfInBounds_toArray, List.set_cons_zero, List.set_cons_succ]
        refine wpAnyH_takeU (i := 2) (v := .bool true) rfl (by kernel_rfl) (by kernel_rfl) (by kernel_rfl) (fun _ _ _ h => h) (by rfl) (fun W hC => by go_simp) hHeld ?_
        simp only [Act.put, List.setIfInBounds_toArray, List.set_cons_zero, List.set_cons_succ]
        refine wpAnyH_takeU (i := 3) (v := .bool true) rfl (by kernel_rfl) (by kernel_rfl) (by kernel_rfl) (fun _ _ _ h => h) (by rfl) (fun W hC => by go_simp) hHeld ?_
        simp only [Act.put, List.setIfInBounds_toArray, List.set_cons_zero, List.set_cons_succ]
        refine wpAnyH_skipV (i := 4) rfl (by kernel_rfl) (by kernel_rfl) (by kernel_rfl) (fun _ _ _ h => h) (by rfl) hHeld ?_
        simp only [Act.put, List.setIfInBounds_toArray, List.set_cons_zero, List.set_cons_succ]
        refine wpAnyH_skipV (i := 5) rfl (by kernel_rfl) (by kernel_rfl) (by kernel_rfl) (fun _ _ _ h => h) (by rfl) hHeld ?_
        simp only [Act.put, List.setIfInBounds_toArray, List.set_cons_zero, List.set_cons_succ]
        refine wpAnyH_skipV (i := 6) rfl (by kernel_rfl) (by kernel_rfl) (by kernel_rfl) (fun _ _ _ h => h) (by rfl) hHeld ?_
        simp only [Act.put, List.setIfInBounds_toArray, List.set_cons_zero, List.set_cons_succ]
        refine wpAnyH_skipV (i := 7) rfl (by kernel_rfl) (by kernel_rfl) (by kernel_rfl) (fun _ _ _ h => h) (by rfl) hHeld ?_
        simp only [Act.put, List.setIfInBounds_toArray, List.set_cons_zero, List.set_cons_succ]
        refine wpAnyH_skipV (i := 8) rfl (by kernel_rfl) (by kernel_rfl) (by kernel_rfl) (fun _ _ _ h => h) (by rfl) hHeld ?_
        simp only [Act.put, List.setIfInBounds_toArray, List.set_cons_zero, List.set_cons_succ]
        refine wpAnyH_skipV (i := 9) rfl (by kernel_rfl) (by kernel_rfl) (by kernel_rfl) (fun _ _ _ h => h) (by rfl) hHeld ?_
        simp only [Act.put, List.setIfInBounds_toArray, List.set_cons_zero, List.set_cons_succ]
        refine wpAnyH_skipV (i := 10) rfl (by kernel_rfl) (by kernel_rfl) (by kernel_rfl) (fun _ _ _ h => h) (by rfl) hHeld ?_
        simp only [Act.put, List.setIfInBounds_toArray, List.set_cons_zero, List.set_cons_succ]
        refine wpAnyH_skipV (i := 11) rfl (by kernel_rfl) (by kernel_rfl) (by kernel_rfl) (fun _ _ _ h => h) (by rfl) hHeld ?_
        simp only [Act.put, List.setIfInBounds_toArray, List.set_cons_zero, List.set_cons_succ]
        refine wpAnyH_skipV (i := 12) rfl (by kernel_rfl) (by kernel_rfl) (by kernel_rfl) (fun _ _ _ h => h) (by rfl) hHeld ?_
        simp only [Act.put, List.setIfInBounds_toArray, List.set_cons_zero, List.set_cons_succ]
        refine wpAnyH_skipV (i := 13) rfl (by kernel_rfl) (by kernel_rfl) (by kernel_rfl) (fun _ _ _ h => h) (by rfl) hHeld ?_
        simp only [Act.put, List.setIfInBounds_toArray, List.set_cons_zero, List.set_cons_succ]
        refine wpAnyH_skipV (i := 14) rfl (by kernel_rfl) (by kernel_rfl) (by kernel_rfl) (fun _ _ _ h => h) (by rfl) hHeld ?_
        simp only [Act.put, List.setIfInBounds_toArray, List.set_cons_zero, List.set_cons_succ]
        refine wpAnyH_takeU (i := 15) (v := .bool true) rfl (by kernel_rfl) (by kernel_rfl) (by kernel_rfl) (fun _ _ _ h => h) (by rfl) (fun W hC => by go_simp) hHeld ?_
        simp only [Act.put, List.setIfInBounds_toArray, List.set_cons_zero, List.set_cons_succ]
        refine wpAnyH_done (by kernel_rfl) ?_ _
        generalize wr.drew = WD at *
        have HRR := hid (HRB.out _ HGF.out)
        have r0 := HRR.out.cell (i := 0) (by decide)
        have r1 := HRR.out.cell (i := 1) (by decide)
        have y0 := HRR.out.frozen 0
        have y1 := HRR.out.frozen 1
        simp only [dub] at r0 r1
        go_wp2_with fail
        have HFI := hid (dub_arr (dub_set1 (dub_set0 HRR.out (.slice none 0 0)) (.int .i64 0)))
        refine bodyPost_ret (results_ctb rfl _ _ R 164 _ (0, 0) _ rfl HFI.out Tryz.underlying164 rfl (by kernel_rfl)) rfl ?_
        refine ⟨fun h => absurd h HNO.out, fun _ => rfl, ?_⟩
        exact gb_farU (gb_farU (HGW.out _ HGF.out) (by have := HRE.out; omega) 0 _) (by have := HRE.out; omega) 1 _
      rw [h3l] at c1
      have hrow := (HRWK.out wr.drew HGD.out).2.row
      obtain ⟨b2, o2, rfl, _, z0⟩ := hrow 0 (by omega)
      obtain ⟨b3, o3, e3, _, z1⟩ := hrow 1 (by omega)
      cases e3
      rw [Nat.add_zero] at z0
      have hx0 := hfk.all 0
      have hx1 := hfk.all 1
      have HAD0 := hid (add_any q b (zat (rat rs k) 0) (zat (rat rs k) 1) wr.drew h3 h4 (HIT.out _ HGD.out).cell hx0.1 hx0.2 hx1.1 hx1.2)
      have HSUM : Hid (GrO q n rs s k ↔ (zat (rat rs k) 0 + zat (rat rs k) 1) % (q : Int) = C) := by
        unfold Hid GrO
        rw [← hC.out]
        exact ⟨fun h => h.2, fun h => ⟨h3l, h⟩⟩
      have HTHX : Hid (∀ (W : World) (r : Int), i64B r → W1.grownBy W (some c) → Calls Tryz.prog 162 #[.agg #[.pointer (some ⟨b, 0, none⟩), .slice ag ng cg, .int .i64 (m : Int)], .slice (some ⟨b2, o2, none⟩) 3 ck, .int .i64 r] W fun e w' => e = .returned (.int .i64 (atz q (rat rs k) r)) ∧ Below W.heap.size W w') := fun W r hr hW => by
        have h := through_any q b ck (.slice ag ng cg) (.int .i64 (m : Int)) (some ⟨b2, o2, none⟩) (rat rs k) r W HPR.out h3 h4 (HIT.out _ hW).cell (by omega) (by omega) HFK.out hr (HRWK.out W hW).2.row
        rw [h3l] at h
        exact h
      have HAN : Hid (Calls Tryz.prog 152 #[.pointer (some ⟨c, 0, none⟩), .slice (some ⟨b2, o2, none⟩) 3 ck] wr.drew fun e w' => e = .returned (.int .i64 (zat (gds q n rs s.D (k + 1)) 0)) ∧ PCh N0 q n w' c (gds q n rs s.D (k + 1)) ∧ wr.drew.grownBy w' (some c)) := by
        have h := answer_any N0 q n c ck (some ⟨b2, o2, none⟩) (rat rs k) (gds q n rs s.D k) wr.drew h3 h4 (HPK.out.below (Below.refl _ _).drew) (HDG.out k) hlk hfk (HRWK.out _ HGD.out).2
        rw [h3l] at h
        exact h
      have HGC : Hid (gcs q n rs s.D s.c (k + 1) = atz q (rat rs k) (zat (gds q n rs s.D (k + 1)) 0)) := rfl
      have HXS := hid (gxs_succ q n rs s.D k)
      have HXN : Hid ((gxs q n rs s.D k).length ≤ 12) := by have := HS1.out; unfold Hid; rw [gxs_len]; omega
      have HRB1 : Hid (i64B (zat (gds q n rs s.D (k + 1)) 0)) := (HDG.out (k + 1)).2.all 0
      have HCB : Hid (i64B C) := by unfold Hid; rw [hC.out]; exact gcs_b h3 h4 HCS.out k
      generalize zat (rat rs k) 0 = X0 at *
      generalize zat (rat rs k) 1 = X1 at *
      have HS8 : Hid ((wr.drew.cell? ⟨G, 0, none⟩ = some (.pointer (some ⟨b, 0, none⟩)) ∧ wr.drew.cell? ⟨G, 1, none⟩ = some (.slice ag ng cg) ∧ wr.drew.cell? ⟨G, 2, none⟩ = some (.int .i64 (m : Int))) ∧ wr.drew.cell? ⟨b2, o2, none⟩ = some (.int .i64 X0) ∧ wr.drew.cell? ⟨b2, o2 + 1, none⟩ = some (.int .i64 X1)) := ⟨HCL.out _ HGD.out, z0, z1⟩
      have HAD : Hid (Calls Tryz.prog 120 #[.pointer (some ⟨b, 0, none⟩), .int .i64 X0, .int .i64 X1] wr.drew fun e w' => e = .returned (.int .i64 ((X0 + X1) % (q : Int))) ∧ w' = wr.drew) := HAD0
      clear hI hrw hfk hlk hrow z0 z1 hx0 hx1 h3l HAD0 hC HRWK HFK
      by_cases heq : (X0 + X1) % (q : Int) = C
      · rw [heq] at HAD
        have HGO : Hid (∀ j, j < k + 1 → GrO q n rs s j) := fun j hj => by
          by_cases h : j = k
          · rw [h]; exact HSUM.out.2 heq
          · exact hAll.out j (by omega)
        have t4 : (C != C) = false := by simp
        clear HSUM heq hAll
        go_wp2_with fail
        refine wp_region_held_drew (S := fun W => (W.cell? ⟨G, 0, none⟩ = some (.pointer (some ⟨b, 0, none⟩)) ∧ W.cell? ⟨G, 1, none⟩ = some (.slice ag ng cg) ∧ W.cell? ⟨G, 2, none⟩ = some (.int .i64 (m : Int))) ∧ W.cell? ⟨b2, o2, none⟩ = some (.int .i64 X0) ∧ W.cell? ⟨b2, o2 + 1, none⟩ = some (.int .i64 X1)) (by kernel_rfl) (HS8.out) (fun hHeld => ?_)
        refine wpAnyH_takeU (i := 0) (v := .slice (some ⟨b2, o2, none⟩) 3 ck) rfl (by kernel_rfl) (by kernel_rfl) (by kernel_rfl) (fun _ _ _ h => h) (by rfl) (fun W hC => by go_simp) hHeld ?_
        simp only [Act.put, List.setIfInBounds_toArray, List.set_cons_zero, List.set_cons_succ]
        refine wpAnyH_takeU (i := 1) (v := .int .i64 3) rfl (by kernel_rfl) (by kernel_rfl) (by kernel_rfl) (fun _ _ _ h => h) (by rfl) (fun W hC => by go_simp) hHeld ?_
        simp only [Act.put, List.setIfInBounds_toArray, List.set_cons_zero, List.set_cons_succ]
        refine wpAnyH_takeU (i := 2) (v := .bool false) rfl (by kernel_rfl) (by kernel_rfl) (by kernel_rfl) (fun _ _ _ h => h) (by rfl) (fun W hC => by go_simp) hHeld ?_
        simp only [Act.put, List.setIfInBounds_toArray, List.set_cons_zero, List.set_cons_succ]
        refine wpAnyH_takeU (i := 3) (v := .bool false) rfl (by kernel_rfl) (by kernel_rfl) (by kernel_rfl) (fun _ _ _ h => h) (by rfl) (fun W hC => by go_simp) hHeld ?_
        simp only [Act.put, List.setIfInBounds_toArray, List.set_cons_zero, List.set_cons_succ]
        refine wpAnyH_takeU (i := 4) (v := .pointer (some ⟨G, 0, none⟩)) rfl (by kernel_rfl) (by kernel_rfl) (by kernel_rfl) (fun _ _ _ h => h) (by rfl) (fun W hC => by go_simp) hHeld ?_
        simp only [Act.put, List.setIfInBounds_toArray, List.set_cons_zero, List.set_cons_succ]
        refine wpAnyH_takeU (i := 5) (v := .pointer (some ⟨b, 0, none⟩)) rfl (by kernel_rfl) (by kernel_rfl) (by kernel_rfl) (fun _ _ _ h => h) (by rfl) (fun W hC => by (obtain ⟨⟨x1, x2, x3⟩, x4, x5⟩ := hC); go_simp) hHeld ?_
        simp only [Act.put, List.setIfInBounds_toArray, List.set_cons_zero, List.set_cons_succ]
        refine wpAnyH_takeU (i := 6) (v := .slice (some ⟨b2, o2, none⟩) 3 ck) rfl (by kernel_rfl) (by kernel_rfl) (by kernel_rfl) (fun _ _ _ h => h) (by rfl) (fun W hC => by go_simp) hHeld ?_
        simp only [Act.put, List.setIfInBounds_toArray, List.set_cons_zero, List.set_cons_succ]
        refine wpAnyH_takeU (i := 7) (v := .pointer (some ⟨b2, o2, none⟩)) rfl (by kernel_rfl) (by kernel_rfl) (by kernel_rfl) (fun _ _ _ h => h) (by rfl) (fun W hC => by go_simp) hHeld ?_
        simp only [Act.put, List.setIfInBounds_toArray, List.set_cons_zero, List.set_cons_succ]
        refine wpAnyH_takeU (i := 8) (v := .int .i64 X0) rfl (by kernel_rfl) (by kernel_rfl) (by kernel_rfl) (fun _ _ _ h => h) (by rfl) (fun W hC => by (obtain ⟨⟨x1, x2, x3⟩, x4, x5⟩ := hC); go_simp) hHeld ?_
        simp only [Act.put, List.setIfInBounds_toArray, List.set_cons_zero, List.set_cons_succ]
        refine wpAnyH_takeU (i := 9) (v := .slice (some ⟨b2, o2, none⟩) 3 ck) rfl (by kernel_rfl) (by kernel_rfl) (by kernel_rfl) (fun _ _ _ h => h) (by rfl) (fun W hC => by go_simp) hHeld ?_
        simp only [Act.put, List.setIfInBounds_toArray, List.set_cons_zero, List.set_cons_succ]
        refine wpAnyH_takeU (i := 10) (v := .pointer (some ⟨b2, o2 + 1, none⟩)) rfl (by kernel_rfl) (by kernel_rfl) (by kernel_rfl) (fun _ _ _ h => h) (by rfl) (fun W hC => by go_simp) hHeld ?_
        simp only [Act.put, List.setIfInBounds_toArray, List.set_cons_zero, List.set_cons_succ]
        refine wpAnyH_takeU (i := 11) (v := .int .i64 X1) rfl (by kernel_rfl) (by kernel_rfl) (by kernel_rfl) (fun _ _ _ h => h) (by rfl) (fun W hC => by (obtain ⟨⟨x1, x2, x3⟩, x4, x5⟩ := hC); go_simp) hHeld ?_
        simp only [Act.put, List.setIfInBounds_toArray, List.set_cons_zero, List.set_cons_succ]
        refine wpAnyH_takeU (i := 13) (v := .int .i64 C) rfl (by kernel_rfl) (by kernel_rfl) (by kernel_rfl) (fun _ _ _ h => h) (by rfl) (fun W hC => by go_simp) hHeld ?_
        simp only [Act.put, List.setIfInBounds_toArray, List.set_cons_zero, List.set_cons_succ]
        refine wpAnyH_ready (rs := [12]) (by kernel_rfl) (by simp) ?_
        refine AllReadyH.consU rfl (fun K' hK' => ?_) AllReadyH.nil
        go_simp
        refine (HAD.out).mono ?_
        rintro e w3 ⟨rfl, hw⟩
        have hw1 := hw.symm
        subst hw1
        clear hw
        refine hK'.out _ _ (HS8.out) (fun hHeld => ?_)
        clear hK' K'
        refine wpAnyH_takeU (i := 14) (v := .bool false) rfl (by kernel_rfl) (by kernel_rfl) (by kernel_rfl) (fun _ _ _ h => h) (by rfl) (fun W hC => by go_simp) hHeld ?_
        simp only [Act.put, List.setIfInBounds_toArray, List.set_cons_zero, List.set_cons_succ]
        refine wpAnyH_takeU (i := 15) (v := .bool false) rfl (by kernel_rfl) (by kernel_rfl) (by kernel_rfl) (fun _ _ _ h => h) (by rfl) (fun W hC => by go_simp) hHeld ?_
        simp only [Act.put, List.setIfInBounds_toArray, List.set_cons_zero, List.set_cons_succ]
        refine wpAnyH_done (by kernel_rfl) ?_ _
        go_wp2_with fail
        refine HAN.out.mono ?_
        rintro e w4 ⟨rfl, hp4, hg4⟩
        have HG4 : Hid (W1.grownBy w4 (some c)) := gb_trans HGD.out hg4
        have HP4 := hid hp4
        obtain ⟨r, hr⟩ : ∃ r, r = zat (gds q n rs s.D (k + 1)) 0 := ⟨_, rfl⟩
        rw [← hr] at HGC HXS HRB1 ⊢
        have HTH0 := hid (fun W (hW : W1.grownBy W (some c)) => HTHX.out W r HRB1.out hW)
        obtain ⟨C2, hC2⟩ : ∃ C2, C2 = atz q (rat rs k) r := ⟨_, rfl⟩
        rw [← hC2] at HTH0 HGC
        have HTH : Hid (∀ W, W1.grownBy W (some c) → Calls Tryz.prog 162 #[.agg #[.pointer (some ⟨b, 0, none⟩), .slice ag ng cg, .int .i64 (m : Int)], .slice (some ⟨b2, o2, none⟩) 3 ck, .int .i64 r] W fun e w' => e = .returned (.int .i64 C2) ∧ Below W.heap.size W w') := HTH0
        have hcW : c < W1.heap.size := by have := HRX.out; omega
        have HO4 := hid (own_gb (own_step HO.out (Below.refl _ _).drew) hg4 hcW)
        obtain ⟨lx, hlx⟩ : ∃ lx, lx = gxs q n rs s.D k := ⟨_, rfl⟩
        rw [← hlx] at HO4 HXS HXN
        have HGD : Hid (W1.grownBy w4.drew (some c)) := gb_trans HG4.out (gb_below (Below.refl _ _).drew)
        have HGA : Hid (W1.grownBy (w4.drew.alloc (.cells #[.int .i64 r] 3)) (some c)) := gb_trans HGD.out (gb_below ((Below.refl _ _).alloc (Nat.le_refl _) _))
        have HOA : Hid ((w4.drew.alloc (.cells #[.int .i64 r] 3)).ownsRow W1.heap.size 3 1 u12 lx.length (lx.map (Value.int .i64))) := (own_step HO4.out (Below.refl _ _).drew).alloc _
        obtain ⟨v5, w5, hrun, ho5, hb5⟩ := run_app1 HOA.out (g := w4.heap.size) (y := r) (cell_alloc_at w4.drew #[.int .i64 r] 3 0 (.int .i64 r) rfl) (by have := HXN.out; omega) HGA.out.size
        have HG5 : Hid (W1.grownBy w5 (some c)) := gb_baseU HGA.out hb5
        have HE5 : Hid (w5.ownsRow W1.heap.size 3 1 v5 (gxs q n rs s.D (k + 1)).length ((gxs q n rs s.D (k + 1)).map (Value.int .i64)) ∧ PCh N0 q n w5 c (gds q n rs s.D (k + 1))) := by
          unfold Hid
          rw [HXS.out]
          have hp5 := (HP4.out.below ((Below.refl _ _).drew)).below ((Below.refl w4.drew.heap.size w4.drew).alloc (Nat.le_refl _) (.cells #[.int .i64 r] 3))
          have hcN' := HCN.out
          exact ⟨ho5, hp5.blocks (hb5.block c hcW) (fun x hx => hb5.block x (by omega))⟩
        clear HTHX HTH0 hp4 hg4 HO4 HOA ho5 hb5 HAN HO HPK hr hlx HXS HXN hC2 k0 k1 k2 c1
        go_wp2_with fail
        refine wp_region_held_drew (S := fun W => (W.cell? ⟨G, 0, none⟩ = some (.pointer (some ⟨b, 0, none⟩)) ∧ W.cell? ⟨G, 1, none⟩ = some (.slice ag ng cg) ∧ W.cell? ⟨G, 2, none⟩ = some (.int .i64 (m : Int)))) (by kernel_rfl) (HCL.out _ HGD.out) (fun hHeld => ?_)
        refine wpAnyH_takeU (i := 0) (v := u12) rfl (by kernel_rfl) (by kernel_rfl) (by kernel_rfl) (fun _ _ _ h => h) (by rfl) (fun W hC => by go_simp) hHeld ?_
        simp only [Act.put, List.setIfInBounds_toArray, List.set_cons_zero, List.set_cons_succ]
        refine wpAnyH_takeU (i := 1) (v := .int .i64 r) rfl (by kernel_rfl) (by kernel_rfl) (by kernel_rfl) (fun _ _ _ h => h) (by rfl) (fun W hC => by go_simp) hHeld ?_
        simp only [Act.put, List.setIfInBounds_toArray, List.set_cons_zero, List.set_cons_succ]
        refine wpAnyH_takeU (i := 4) (v := .agg #[.pointer (some ⟨b, 0, none⟩), .slice ag ng cg, .int .i64 (m : Int)]) rfl (by kernel_rfl) (by kernel_rfl) (by kernel_rfl) (fun _ _ _ h => h) (by rfl) (fun W hC => by (obtain ⟨x1, x2, x3⟩ := hC); go_simp) hHeld ?_
        simp only [Act.put, List.setIfInBounds_toArray, List.set_cons_zero, List.set_cons_succ]
        refine wpAnyH_takeU (i := 5) (v := .slice (some ⟨b2, o2, none⟩) 3 ck) rfl (by kernel_rfl) (by kernel_rfl) (by kernel_rfl) (fun _ _ _ h => h) (by rfl) (fun W hC => by go_simp) hHeld ?_
        simp only [Act.put, List.setIfInBounds_toArray, List.set_cons_zero, List.set_cons_succ]
        refine wpAnyH_takeU (i := 6) (v := .int .i64 r) rfl (by kernel_rfl) (by kernel_rfl) (by kernel_rfl) (fun _ _ _ h => h) (by rfl) (fun W hC => by go_simp) hHeld ?_
        simp only [Act.put, List.setIfInBounds_toArray, List.set_cons_zero, List.set_cons_succ]
        refine wpAnyH_ready (rs := [2]) (by kernel_rfl) (by simp) ?_
        refine AllReadyH.consU rfl (fun K' hK' => ?_) AllReadyH.nil
        go_simp
        refine hK'.out _ _ (HCL.out _ HGA.out) (fun hHeld => ?_)
        clear hK' K'
        refine wpAnyH_ready (rs := [3]) (by kernel_rfl) (by simp) ?_
        refine AllReadyH.consU rfl (fun K' hK' => ?_) AllReadyH.nil
        rw [if_pos (by rfl)]
        refine rg_appendU _ _ 23 23 rfl _ _ v5 rfl rfl hrun ?_
        refine hK'.out _ _ (HCL.out _ HG5.out) (fun hHeld => ?_)
        clear hK' K' hrun
        simp only [Act.put, List.setIfInBounds_toArray, List.set_cons_zero, List.set_cons_succ]
        refine wpAnyH_ready (rs := [7]) (by kernel_rfl) (by simp) ?_
        refine AllReadyH.consU rfl (fun K' hK' => ?_) AllReadyH.nil
        go_simp
        refine (HTH.out w5 HG5.out).mono ?_
        rintro e w6 ⟨rfl, hb6⟩
        have HG6 : Hid (W1.grownBy w6 (some c)) := gb_trans HG5.out (gb_below hb6)
        refine hK'.out _ _ (HCL.out _ HG6.out) (fun hHeld => ?_)
        clear hK' K'
        refine wpAnyH_takeU (i := 8) (v := v5) rfl (by kernel_rfl) (by kernel_rfl) (by kernel_rfl) (fun _ _ _ h => h) (by rfl) (fun W hC => by go_simp) hHeld ?_
        simp only [Act.put, List.setIfInBounds_toArray, List.set_cons_zero, List.set_cons_succ]
        refine wpAnyH_takeU (i := 9) (v := .int .i64 C2) rfl (by kernel_rfl) (by kernel_rfl) (by kernel_rfl) (fun _ _ _ h => h) (by rfl) (fun W hC => by go_simp) hHeld ?_
        simp only [Act.put, List.setIfInBounds_toArray, List.set_cons_zero, List.set_cons_succ]
        refine wpAnyH_done (by kernel_rfl) ?_ _
        have HE6 : Hid (w6.ownsRow W1.heap.size 3 1 v5 (gxs q n rs s.D (k + 1)).length ((gxs q n rs s.D (k + 1)).map (Value.int .i64)) ∧ PCh N0 q n w6 c (gds q n rs s.D (k + 1)) ∧ W1.grownBy w6 (some c)) := ⟨own_step HE5.out.1 hb6, HE5.out.2.below hb6, HG6.out⟩
        clear hb6 HE5 HTH
        go_wp2_with fail
        go_roundw
        case rel => exact ⟨k + 1, by omega, by go_num, C2, rfl, HGC.out.symm, HGO, HE6⟩
        case measure => simp [intOf]; omega
      · have HNO : Hid (¬ GlO q n m gs rs line s) := fun h => heq (HSUM.out.1 (h.2.1 k (by have := HS1.out; omega)))
        have t4 : ((X0 + X1) % (q : Int) != C) = true := by simp [heq]
        have HGF : Hid (W1.grownBy wr.drew (some c)) := HGD
        generalize (X0 + X1) % (q : Int) = XS at *
        clear heq HSUM hAll HAN HTHX HGC HXS HXN HRB1 HO HPK
        go_wp2_with fail
        refine wp_region_held_drew (S := fun W => (W.cell? ⟨G, 0, none⟩ = some (.pointer (some ⟨b, 0, none⟩)) ∧ W.cell? ⟨G, 1, none⟩ = some (.slice ag ng cg) ∧ W.cell? ⟨G, 2, none⟩ = some (.int .i64 (m : Int))) ∧ W.cell? ⟨b2, o2, none⟩ = some (.int .i64 X0) ∧ W.cell? ⟨b2, o2 + 1, none⟩ = some (.int .i64 X1)) (by kernel_rfl) (HS8.out) (fun hHeld => ?_)
        refine wpAnyH_takeU (i := 0) (v := .slice (some ⟨b2, o2, none⟩) 3 ck) rfl (by kernel_rfl) (by kernel_rfl) (by kernel_rfl) (fun _ _ _ h => h) (by rfl) (fun W hC => by go_simp) hHeld ?_
        simp only [Act.put, List.setIfInBounds_toArray, List.set_cons_zero, List.set_cons_succ]
        refine wpAnyH_takeU (i := 1) (v := .int .i64 3) rfl (by kernel_rfl) (by kernel_rfl) (by kernel_rfl) (fun _ _ _ h => h) (by rfl) (fun W hC => by go_simp) hHeld ?_
        simp only [Act.put, List.setIfInBounds_toArray, List.set_cons_zero, List.set_cons_succ]
        refine wpAnyH_takeU (i := 2) (v := .bool false) rfl (by kernel_rfl) (by kernel_rfl) (by kernel_rfl) (fun _ _ _ h => h) (by rfl) (fun W hC => by go_simp) hHeld ?_
        simp only [Act.put, List.setIfInBounds_toArray, List.set_cons_zero, List.set_cons_succ]
        refine wpAnyH_takeU (i := 3) (v := .bool false) rfl (by kernel_rfl) (by kernel_rfl) (by kernel_rfl) (fun _ _ _ h => h) (by rfl) (fun W hC => by go_simp) hHeld ?_
        simp only [Act.put, List.setIfInBounds_toArray, List.set_cons_zero, List.set_cons_succ]
        refine wpAnyH_takeU (i := 4) (v := .pointer (some ⟨G, 0, none⟩)) rfl (by kernel_rfl) (by kernel_rfl) (by kernel_rfl) (fun _ _ _ h => h) (by rfl) (fun W hC => by go_simp) hHeld ?_
        simp only [Act.put, List.setIfInBounds_toArray, List.set_cons_zero, List.set_cons_succ]
        refine wpAnyH_takeU (i := 5) (v := .pointer (some ⟨b, 0, none⟩)) rfl (by kernel_rfl) (by kernel_rfl) (by kernel_rfl) (fun _ _ _ h => h) (by rfl) (fun W hC => by (obtain ⟨⟨x1, x2, x3⟩, x4, x5⟩ := hC); go_simp) hHeld ?_
        simp only [Act.put, List.setIfInBounds_toArray, List.set_cons_zero, List.set_cons_succ]
        refine wpAnyH_takeU (i := 6) (v := .slice (some ⟨b2, o2, none⟩) 3 ck) rfl (by kernel_rfl) (by kernel_rfl) (by kernel_rfl) (fun _ _ _ h => h) (by rfl) (fun W hC => by go_simp) hHeld ?_
        simp only [Act.put, List.setIfInBounds_toArray, List.set_cons_zero, List.set_cons_succ]
        refine wpAnyH_takeU (i := 7) (v := .pointer (some ⟨b2, o2, none⟩)) rfl (by kernel_rfl) (by kernel_rfl) (by kernel_rfl) (fun _ _ _ h => h) (by rfl) (fun W hC => by go_simp) hHeld ?_
        simp only [Act.put, List.setIfInBounds_toArray, List.set_cons_zero, List.set_cons_succ]
        refine wpAnyH_takeU (i := 8) (v := .int .i64 X0) rfl (by kernel_rfl) (by kernel_rfl) (by kernel_rfl) (fun _ _ _ h => h) (by rfl) (fun W hC => by (obtain ⟨⟨x1, x2, x3⟩, x4, x5⟩ := hC); go_simp) hHeld ?_
        simp only [Act.put, List.setIfInBounds_toArray, List.set_cons_zero, List.set_cons_succ]
        refine wpAnyH_takeU (i := 9) (v := .slice (some ⟨b2, o2, none⟩) 3 ck) rfl (by kernel_rfl) (by kernel_rfl) (by kernel_rfl) (fun _ _ _ h => h) (by rfl) (fun W hC => by go_simp) hHeld ?_
        simp only [Act.put, List.setIfInBounds_toArray, List.set_cons_zero, List.set_cons_succ]
        refine wpAnyH_takeU (i := 10) (v := .pointer (some ⟨b2, o2 + 1, none⟩)) rfl (by kernel_rfl) (by kernel_rfl) (by kernel_rfl) (fun _ _ _ h => h) (by rfl) (fun W hC => by go_simp) hHeld ?_
        simp only [Act.put, List.setIfInBounds_toArray, List.set_cons_zero, List.set_cons_succ]
        refine wpAnyH_takeU (i := 11) (v := .int .i64 X1) rfl (by kernel_rfl) (by kernel_rfl) (by kernel_rfl) (fun _ _ _ h => h) (by rfl) (fun W hC => by (obtain ⟨⟨x1, x2, x3⟩, x4, x5⟩ := hC); go_simp) hHeld ?_
        simp only [Act.put, List.setIfInBounds_toArray, List.set_cons_zero, List.set_cons_succ]
        refine wpAnyH_takeU (i := 13) (v := .int .i64 C) rfl (by kernel_rfl) (by kernel_rfl) (by kernel_rfl) (fun _ _ _ h => h) (by rfl) (fun W hC => by go_simp) hHeld ?_
        simp only [Act.put, List.setIfInBounds_toArray, List.set_cons_zero, List.set_cons_succ]
        refine wpAnyH_ready (rs := [12]) (by kernel_rfl) (by simp) ?_
        refine AllReadyH.consU rfl (fun K' hK' => ?_) AllReadyH.nil
        go_simp
        refine (HAD.out).mono ?_
        rintro e w3 ⟨rfl, hw⟩
        have hw1 := hw.symm
        subst hw1
        clear hw
        refine hK'.out _ _ (HS8.out) (fun hHeld => ?_)
        clear hK' K'
        refine wpAnyH_takeU (i := 14) (v := .bool true) rfl (by kernel_rfl) (by kernel_rfl) (by kernel_rfl) (fun _ _ _ h => h) (by rfl) (fun W hC => by go_simp) hHeld ?_
        simp only [Act.put, List.setIfInBounds_toArray, List.set_cons_zero, List.set_cons_succ]
        refine wpAnyH_takeU (i := 15) (v := .bool true) rfl (by kernel_rfl) (by kernel_rfl) (by kernel_rfl) (fun _ _ _ h => h) (by rfl) (fun W hC => by go_simp) hHeld ?_
        simp only [Act.put, List.setIfInBounds_toArray, List.set_cons_zero, List.set_cons_succ]
        refine wpAnyH_done (by kernel_rfl) ?_ _
        generalize wr.drew = WD at *
        have HRR := hid (HRB.out _ HGF.out)
        have r0 := HRR.out.cell (i := 0) (by decide)
        have r1 := HRR.out.cell (i := 1) (by decide)
        have y0 := HRR.out.frozen 0
        have y1 := HRR.out.frozen 1
        simp only [dub] at r0 r1
        go_wp2_with fail
        have HFI := hid (dub_arr (dub_set1 (dub_set0 HRR.out (.slice none 0 0)) (.int .i64 0)))
        refine bodyPost_ret (results_ctb rfl _ _ R 164 _ (0, 0) _ rfl HFI.out Tryz.underlying164 rfl (by kernel_rfl)) rfl ?_
        refine ⟨fun h => absurd h HNO.out, fun _ => rfl, ?_⟩
        exact gb_farU (gb_farU (HGW.out _ HGF.out) (by have := HRE.out; omega) 0 _) (by have := HRE.out; omega) 1 _
    · have ek : k = nr := by omega
      have hk2 : k = 2 * m := by have := HS1.out; omega
      have hlt2 : ¬ (k : Int) < (nr : Int) := by omega
      rw [hk2] at hC hAll
      have HPK0 := hI.out.2.1
      have hO := hI.out.1
      rw [hk2] at HPK0 hO
      have HPK := hid HPK0
      obtain ⟨ad, cd, rfl, hnd⟩ := numL_of_owns hO
      rw [gxs_len]
      have HC0 := hC
      obtain ⟨X, hX⟩ : ∃ X, X = gxs q n rs s.D (2 * m) := ⟨_, rfl⟩
      rw [← hX] at hnd
      have hXl : X.length = 2 * m := by rw [hX]; exact gxs_len _ _ _ _ _
      have hXf : Fits X := by rw [hX]; exact gxs_fits h3 h4 n rs HDD.out _
      have hcapd : 2 * m ≤ cd := by have := hnd.1.room; omega
      have HND : Hid (∀ W, wr.grownBy W (some c) → NumL W ad cd X) := fun W hW => hnd.other hW HPK.out.notI
      have HXL := hid hXl
      have htl : (X.take m).length = m := by rw [List.length_take]; omega
      have hdl : (X.drop m).length = m := by rw [List.length_drop]; omega
      have HROW : Hid (∀ W, wr.grownBy W (some c) → RowB W.heap.size W ad (X.take m) ∧ RowB W.heap.size W (adS ad cd m) (X.drop m)) := fun W hW => ⟨take_row (HND.out W hW).1.row, adS_row (HND.out W hW).1.row (by have := (HND.out W hW).1.room; omega)⟩
      have HG2W : Hid (∀ W, wr.grownBy W (some c) → W1.grownBy W (some c)) := fun W hW => gb_trans HGR.out hW
      have hng64 : gs.length ≤ 64 := hgl
      have HEN : Hid (∀ W, wr.grownBy W (some c) → Calls Tryz.prog 163 #[.agg #[.pointer (some ⟨b, 0, none⟩), .slice ag ng cg, .int .i64 (m : Int)], .slice az nzz cz, .slice ad m cd, .slice (adS ad cd m) m (cd - m), .slice al nl cl] W fun e w' => e = .returned (.int .i64 (enz q gs s.z (X.take m) (X.drop m) line m)) ∧ Below W.heap.size W w') := fun W hW => by
        have hG := HG2W.out W hW
        have h := ends_any q b m cg cz cd (cd - m) cl ag az ad (adS ad cd m) al gs s.z (X.take m) (X.drop m) line W h3 h4 (HIT.out W hG).cell hng64 (HGS.out W hG) HOO.out (by have := HZZ.out.2; omega) (by omega) (by omega) HZZ.out.1 (fits_take m hXf) (fits_drop m hXf) HLN.out.1 (HNZ.out W hG).1.row (HROW.out W hW).1 (HROW.out W hW).2 (HLI.out W hG).row (by have := HS2.out; have := HNN.out.2.1; omega) (by omega)
        rw [htl, hdl, ← HNN.out.2.1, ← HNN.out.2.2.1, ← HNN.out.2.2.2] at h
        exact h
      have HGN : Hid (gnx q n m rs line s = ⟨gan q n (gds q n rs s.D (2 * m)) line, onl q (X.take m) (X.drop m) (zat (gan q n (gds q n rs s.D (2 * m)) line) 0), atz q line (zat (gan q n (gds q n rs s.D (2 * m)) line) 0)⟩) := by rw [hX]; rfl
      have HGL : Hid (GlO q n m gs rs line s ↔ enz q gs s.z (X.take m) (X.drop m) line m = C) := by
        unfold Hid GlO
        rw [HC0.out, ← hX]
        exact ⟨fun h => h.2.2, fun h => ⟨⟨by rw [← HNN.out.1]; exact HS1.out, by rw [← HNN.out.2.1]; exact HS2.out⟩, hAll.out, h⟩⟩
      obtain ⟨D3, hD3⟩ : ∃ D3, D3 = gan q n (gds q n rs s.D (2 * m)) line := ⟨_, rfl⟩
      rw [← hD3] at HGN
      have HAN : Hid (∀ W, wr.grownBy W (some c) → PCh N0 q n W c (gds q n rs s.D (2 * m)) → Calls Tryz.prog 152 #[.pointer (some ⟨c, 0, none⟩), .slice al nl cl] W fun e w' => e = .returned (.int .i64 (zat D3 0)) ∧ PCh N0 q n w' c D3 ∧ W.grownBy w' (some c)) := fun W hW hp => by
        have h := answer_any N0 q n c cl al line (gds q n rs s.D (2 * m)) W h3 h4 hp (HDG.out _) HLN.out.2 HLN.out.1 (HLI.out W (HG2W.out W hW))
        rw [← HNN.out.2.1] at h
        rw [hD3]
        exact h
      have HRB1 : Hid (i64B (zat D3 0)) := by rw [hD3]; exact (dig_gan h3 h4 n (gds q n rs s.D (2 * m)) line).2.all 0
      obtain ⟨tt, htt⟩ : ∃ tt, tt = zat D3 0 := ⟨_, rfl⟩
      rw [← htt] at HAN HGN HRB1
      have HBT0 : Hid (∀ W, wr.grownBy W (some c) → Calls Tryz.prog 154 #[.agg #[.pointer (some ⟨b, 0, none⟩), .slice ag ng cg, .int .i64 (m : Int)], .slice ad m cd, .slice (adS ad cd m) m (cd - m), .int .i64 tt] W fun e w' => ∃ O, e = .returned (.slice (some ⟨O, 0, none⟩) m m) ∧ W.heap.size ≤ O ∧ ArrI w' O 3 m (zat (onl q (X.take m) (X.drop m) tt)) ∧ Below W.heap.size W w') := fun W hW => by
        have h := between_any q b cd (cd - m) (.slice ag ng cg) (.int .i64 (m : Int)) ad (adS ad cd m) (X.take m) (X.drop m) tt W h3 h4 (HIT.out W (HG2W.out W hW)).cell (by omega) (by omega) (fits_take m hXf) (fits_drop m hXf) HRB1.out (HROW.out W hW).1 (HROW.out W hW).2
        rw [htl, hdl] at h
        exact h
      have HTL0 : Hid (∀ W, wr.grownBy W (some c) → Calls Tryz.prog 162 #[.agg #[.pointer (some ⟨b, 0, none⟩), .slice ag ng cg, .int .i64 (m : Int)], .slice al nl cl, .int .i64 tt] W fun e w' => e = .returned (.int .i64 (atz q line tt)) ∧ Below W.heap.size W w') := fun W hW => by
        have h := through_any q b cl (.slice ag ng cg) (.int .i64 (m : Int)) al line tt W HPR.out h3 h4 (HIT.out W (HG2W.out W hW)).cell (by have := HS2.out; have := HNN.out.2.1; omega) (by have := HS2.out; have := HNN.out.2.1; omega) HLN.out.1 HRB1.out (HLI.out W (HG2W.out W hW)).row
        rw [← HNN.out.2.1] at h
        exact h
      have HOL : Hid ((onl q (X.take m) (X.drop m) tt).length = m) := by unfold Hid; rw [onl_len, htl]
      obtain ⟨ZZ, hZZ⟩ : ∃ ZZ, ZZ = onl q (X.take m) (X.drop m) tt := ⟨_, rfl⟩
      obtain ⟨C3, hC3⟩ : ∃ C3, C3 = atz q line tt := ⟨_, rfl⟩
      rw [← hZZ] at HBT0 HGN HOL
      rw [← hC3] at HTL0 HGN
      obtain ⟨EN, hEN⟩ : ∃ EN, EN = enz q gs s.z (X.take m) (X.drop m) line m := ⟨_, rfl⟩
      rw [← hEN] at HEN HGL
      have HGD : Hid (wr.grownBy wr.drew (some c)) := gb_below (Below.refl _ _).drew
      obtain ⟨d0, d1, d2⟩ := HCL.out wr.drew (HG2W.out _ HGD.out)
      obtain ⟨n0, n1⟩ := HCM.out wr.drew (HG2W.out _ HGD.out)
      have HENX := hid (HEN.out wr.drew HGD.out)
      have HADS : Hid (adS ad cd m = (if cd = m then ad else ad.map fun x => x.add m)) := rfl
      obtain ⟨AY, hAY⟩ : ∃ AY, AY = adS ad cd m := ⟨_, rfl⟩
      rw [← hAY] at HENX HBT0 HADS
      have hcm : (m : Int) ≤ (cd : Int) := by omega
      have hcm2 : (m : Int) ≤ ((2 * m : Nat) : Int) := by omega
      have hmz : (0 : Int) ≤ (m : Int) := by omega
      obtain ⟨m2, hm2⟩ : ∃ m2, m2 = 2 * m := ⟨_, rfl⟩
      rw [← hm2] at hcm2 ⊢
      have HM2 : Hid (m2 - m = m) := by unfold Hid; omega
      have hcm3 : m ≤ m2 := by omega
      have hcm4 : m2 ≤ cd := by omega
      clear hI hO hnd hC HPK0 hX hXl hXf htl hdl hD3 htt hZZ hC3 hEN hAY hm2 hAll hng64 HEN HND HC0 hcapd
      go_wp2_with fail
      refine wp_region_held_drew (S := fun W => (W.cell? ⟨G, 0, none⟩ = some (.pointer (some ⟨b, 0, none⟩)) ∧ W.cell? ⟨G, 1, none⟩ = some (.slice ag ng cg) ∧ W.cell? ⟨G, 2, none⟩ = some (.int .i64 (m : Int)))) (by kernel_rfl) (HCL.out _ (HG2W.out _ HGD.out)) (fun hHeld => ?_)
      refine wpAnyH_takeU (i := 0) (v := .slice ad m2 cd) rfl (by kernel_rfl) (by kernel_rfl) (by kernel_rfl) (fun _ _ _ h => h) (by rfl) (fun W hC => by go_simp) hHeld ?_
      simp only [Act.put, List.setIfInBounds_toArray, List.set_cons_zero, List.set_cons_succ]
      refine wpAnyH_takeU (i := 1) (v := .pointer (some ⟨G, 2, none⟩)) rfl (by kernel_rfl) (by kernel_rfl) (by kernel_rfl) (fun _ _ _ h => h) (by rfl) (fun W hC => by go_simp) hHeld ?_
      simp only [Act.put, List.setIfInBounds_toArray, List.set_cons_zero, List.set_cons_succ]
      refine wpAnyH_takeU (i := 2) (v := .int .i64 (m : Int)) rfl (by kernel_rfl) (by kernel_rfl) (by kernel_rfl) (fun _ _ _ h => h) (by rfl) (fun W hC => by (obtain ⟨x1, x2, x3⟩ := hC); go_simp) hHeld ?_
      simp only [Act.put, List.setIfInBounds_toArray, List.set_cons_zero, List.set_cons_succ]
      refine wpAnyH_takeU (i := 3) (v := .slice ad m cd) rfl (by kernel_rfl) (by kernel_rfl) (by kernel_rfl) (fun _ _ _ h => h) (by rfl) (fun W hC => by go_simp) hHeld ?_
      simp only [Act.put, List.setIfInBounds_toArray, List.set_cons_zero, List.set_cons_succ]
      refine wpAnyH_takeU (i := 4) (v := .slice ad m2 cd) rfl (by kernel_rfl) (by kernel_rfl) (by kernel_rfl) (fun _ _ _ h => h) (by rfl) (fun W hC => by go_simp) hHeld ?_
      simp only [Act.put, List.setIfInBounds_toArray, List.set_cons_zero, List.set_cons_succ]
      refine wpAnyH_takeU (i := 5) (v := .pointer (some ⟨G, 2, none⟩)) rfl (by kernel_rfl) (by kernel_rfl) (by kernel_rfl) (fun _ _ _ h => h) (by rfl) (fun W hC => by go_simp) hHeld ?_
      simp only [Act.put, List.setIfInBounds_toArray, List.set_cons_zero, List.set_cons_succ]
      refine wpAnyH_takeU (i := 6) (v := .int .i64 (m : Int)) rfl (by kernel_rfl) (by kernel_rfl) (by kernel_rfl) (fun _ _ _ h => h) (by rfl) (fun W hC => by (obtain ⟨x1, x2, x3⟩ := hC); go_simp) hHeld ?_
      simp only [Act.put, List.setIfInBounds_toArray, List.set_cons_zero, List.set_cons_succ]
      refine wpAnyH_takeU (i := 7) (v := .slice AY (m2 - m) (cd - m)) rfl (by kernel_rfl) (by kernel_rfl) (by kernel_rfl) (fun _ _ _ h => h) (by rfl) (fun W hC => by rw [HADS.out]; go_simp) hHeld ?_
      simp only [Act.put, List.setIfInBounds_toArray, List.set_cons_zero, List.set_cons_succ]
      refine wpAnyH_takeU (i := 8) (v := .slice ad m cd) rfl (by kernel_rfl) (by kernel_rfl) (by kernel_rfl) (fun _ _ _ h => h) (by rfl) (fun W hC => by go_simp) hHeld ?_
      simp only [Act.put, List.setIfInBounds_toArray, List.set_cons_zero, List.set_cons_succ]
      refine wpAnyH_takeU (i := 9) (v := .slice AY (m2 - m) (cd - m)) rfl (by kernel_rfl) (by kernel_rfl) (by kernel_rfl) (fun _ _ _ h => h) (by rfl) (fun W hC => by go_simp) hHeld ?_
      simp only [Act.put, List.setIfInBounds_toArray, List.set_cons_zero, List.set_cons_succ]
      refine wpAnyH_done (by kernel_rfl) ?_ _
      rw [HM2.out]
      have HPD : Hid (PCh N0 q n wr.drew c (gds q n rs s.D (2 * m))) := HPK.out.below (Below.refl _ _).drew
      have HG5 := HGD
      generalize wr.drew = WD at *
      clear HPK
      go_wp2_with fail
      refine HENX.out.mono ?_
      rintro e w5 ⟨rfl, hb5⟩
      have HGG5 : Hid (wr.grownBy w5 (some c)) := gb_trans HG5.out (gb_below hb5)
      have HP5 : Hid (PCh N0 q n w5 c (gds q n rs s.D (2 * m))) := HPD.out.below hb5
      have HANX := hid (HAN.out w5 HGG5.out HP5.out)
      have HGF : Hid (W1.grownBy w5 (some c)) := HG2W.out _ HGG5.out
      clear hb5 HENX HPD d0 d1 d2 n0 n1 HG5 HGD HAN
      by_cases heq : EN = C
      rotate_left
      · have HNO : Hid (¬ GlO q n m gs rs line s) := fun h => heq (HGL.out.1 h)
        have t4 : (EN != C) = true := by simp [heq]
        clear heq HGL HANX HBT0 HTL0
        have HRR := hid (HRB.out _ HGF.out)
        have r0 := HRR.out.cell (i := 0) (by decide)
        have r1 := HRR.out.cell (i := 1) (by decide)
        have y0 := HRR.out.frozen 0
        have y1 := HRR.out.frozen 1
        simp only [dub] at r0 r1
        go_wp2_with fail
        have HFI := hid (dub_arr (dub_set1 (dub_set0 HRR.out (.slice none 0 0)) (.int .i64 0)))
        refine bodyPost_ret (results_ctb rfl _ _ R 164 _ (0, 0) _ rfl HFI.out Tryz.underlying164 rfl (by kernel_rfl)) rfl ?_
        refine ⟨fun h => absurd h HNO.out, fun _ => rfl, ?_⟩
        exact gb_farU (gb_farU (HGW.out _ HGF.out) (by have := HRE.out; omega) 0 _) (by have := HRE.out; omega) 1 _
      have HYES : Hid (GlO q n m gs rs line s) := HGL.out.2 heq
      have t4 : (EN != C) = false := by simp [heq]
      clear heq HGL
      go_wp2_with fail
      refine HANX.out.mono ?_
      rintro e w6 ⟨rfl, hp6, hg6⟩
      have HP6 := hid hp6
      have HGG6 : Hid (wr.grownBy w6 (some c)) := gb_trans HGG5.out hg6
      have HBT : Hid (∀ W, wr.grownBy W (some c) → Calls Tryz.prog 154 #[.agg #[.pointer (some ⟨b, 0, none⟩), .slice ag ng cg, .int .i64 (m : Int)], .slice ad m cd, .slice AY m (cd - m), .int .i64 tt] W fun e w' => ∃ O, e = .returned (.slice (some ⟨O, 0, none⟩) m m) ∧ W.heap.size ≤ O ∧ ArrI w' O 3 m (zat ZZ) ∧ Below W.heap.size W w') := HBT0
      have HGD : Hid (wr.grownBy w6.drew (some c)) := gb_trans HGG6.out (gb_below (Below.refl _ _).drew)
      have HPF : Hid (PCh N0 q n w6.drew c D3) := HP6.out.below (Below.refl _ _).drew
      have HCLS : Hid (∀ W, W1.grownBy W (some c) → ∀ (u v : Value), ((W.setCell ⟨R, 0, none⟩ u).setCell ⟨R, 1, none⟩ v).cell? ⟨G, 0, none⟩ = some (.pointer (some ⟨b, 0, none⟩)) ∧ ((W.setCell ⟨R, 0, none⟩ u).setCell ⟨R, 1, none⟩ v).cell? ⟨G, 1, none⟩ = some (.slice ag ng cg) ∧ ((W.setCell ⟨R, 0, none⟩ u).setCell ⟨R, 1, none⟩ v).cell? ⟨G, 2, none⟩ = some (.int .i64 (m : Int))) := fun W hW u v => by
        have hGR : G ≠ R := by have := HGE.out; have := HRE.out; omega
        have hbl : ((W.setCell ⟨R, 0, none⟩ u).setCell ⟨R, 1, none⟩ v).heap[G]? = W.heap[G]? := (Below.heap_setCell _ _ _ _ (by show G ≠ R; exact hGR)).trans (Below.heap_setCell _ _ _ _ (by show G ≠ R; exact hGR))
        obtain ⟨q0, q1, q2⟩ := HCL.out W hW
        exact ⟨(World.cell?_of_block (w := W) (a := ⟨G, 0, none⟩) hbl).trans q0, (World.cell?_of_block (w := W) (a := ⟨G, 1, none⟩) hbl).trans q1, (World.cell?_of_block (w := W) (a := ⟨G, 2, none⟩) hbl).trans q2⟩
      clear hp6 hg6 HANX HBT0 HP5 HGF t4
      go_wp2_with fail
      refine wp_region_held_drew (S := fun W => (W.cell? ⟨G, 0, none⟩ = some (.pointer (some ⟨b, 0, none⟩)) ∧ W.cell? ⟨G, 1, none⟩ = some (.slice ag ng cg) ∧ W.cell? ⟨G, 2, none⟩ = some (.int .i64 (m : Int)))) (by kernel_rfl) (HCL.out _ (HG2W.out _ HGD.out)) (fun hHeld => ?_)
      refine wpAnyH_takeU (i := 0) (v := .agg #[.pointer (some ⟨b, 0, none⟩), .slice ag ng cg, .int .i64 (m : Int)]) rfl (by kernel_rfl) (by kernel_rfl) (by kernel_rfl) (fun _ _ _ h => h) (by rfl) (fun W hC => by (obtain ⟨x1, x2, x3⟩ := hC); go_simp) hHeld ?_
      simp only [Act.put, List.setIfInBounds_toArray, List.set_cons_zero, List.set_cons_succ]
      refine wpAnyH_takeU (i := 1) (v := .slice ad m cd) rfl (by kernel_rfl) (by kernel_rfl) (by kernel_rfl) (fun _ _ _ h => h) (by rfl) (fun W hC => by go_simp) hHeld ?_
      simp only [Act.put, List.setIfInBounds_toArray, List.set_cons_zero, List.set_cons_succ]
      refine wpAnyH_takeU (i := 2) (v := .slice AY m (cd - m)) rfl (by kernel_rfl) (by kernel_rfl) (by kernel_rfl) (fun _ _ _ h => h) (by rfl) (fun W hC => by go_simp) hHeld ?_
      simp only [Act.put, List.setIfInBounds_toArray, List.set_cons_zero, List.set_cons_succ]
      refine wpAnyH_takeU (i := 3) (v := .int .i64 tt) rfl (by kernel_rfl) (by kernel_rfl) (by kernel_rfl) (fun _ _ _ h => h) (by rfl) (fun W hC => by go_simp) hHeld ?_
      simp only [Act.put, List.setIfInBounds_toArray, List.set_cons_zero, List.set_cons_succ]
      refine wpAnyH_takeU (i := 5) (v := .agg #[.pointer (some ⟨b, 0, none⟩), .slice ag ng cg, .int .i64 (m : Int)]) rfl (by kernel_rfl) (by kernel_rfl) (by kernel_rfl) (fun _ _ _ h => h) (by rfl) (fun W hC => by (obtain ⟨x1, x2, x3⟩ := hC); go_simp) hHeld ?_
      simp only [Act.put, List.setIfInBounds_toArray, List.set_cons_zero, List.set_cons_succ]
      refine wpAnyH_takeU (i := 6) (v := .slice al nl cl) rfl (by kernel_rfl) (by kernel_rfl) (by kernel_rfl) (fun _ _ _ h => h) (by rfl) (fun W hC => by go_simp) hHeld ?_
      simp only [Act.put, List.setIfInBounds_toArray, List.set_cons_zero, List.set_cons_succ]
      refine wpAnyH_takeU (i := 7) (v := .int .i64 tt) rfl (by kernel_rfl) (by kernel_rfl) (by kernel_rfl) (fun _ _ _ h => h) (by rfl) (fun W hC => by go_simp) hHeld ?_
      simp only [Act.put, List.setIfInBounds_toArray, List.set_cons_zero, List.set_cons_succ]
      refine wpAnyH_ready (rs := [4]) (by kernel_rfl) (by simp) ?_
      refine AllReadyH.consU rfl (fun K' hK' => ?_) AllReadyH.nil
      go_simp
      refine (HBT.out _ HGD.out).mono ?_
      rintro e w7 ⟨O, rfl, hO7, hA7, hb7⟩
      have HG7 : Hid (wr.grownBy w7 (some c)) := gb_trans HGD.out (gb_below hb7)
      have HA7 := hid hA7
      have HO7 := hid hO7
      refine hK'.out _ _ (HCL.out _ (HG2W.out _ HG7.out)) (fun hHeld => ?_)
      clear hK' K'
      refine wpAnyH_ready (rs := [8]) (by kernel_rfl) (by simp) ?_
      refine AllReadyH.consU rfl (fun K' hK' => ?_) AllReadyH.nil
      go_simp
      refine (HTL0.out _ HG7.out).mono ?_
      rintro e w8 ⟨rfl, hb8⟩
      have HG8 : Hid (wr.grownBy w8 (some c)) := gb_trans HG7.out (gb_below hb8)
      have HA8 := hid (HA7.out.below hb8 (by exact HA7.out.lt))
      have HP8 := hid ((HPF.out.below hb7).below hb8)
      have HRR := hid (HRB.out _ (HG2W.out _ HG8.out))
      have r0 := HRR.out.cell (i := 0) (by decide)
      have r1 := HRR.out.cell (i := 1) (by decide)
      have y0 := HRR.out.frozen 0
      have y1 := HRR.out.frozen 1
      simp only [dub] at r0 r1
      refine hK'.out _ _ (HCL.out _ (HG2W.out _ HG8.out)) (fun hHeld => ?_)
      clear hK' K'
      refine wpAnyH_takeU (i := 9) (v := .agg #[.slice (some ⟨O, 0, none⟩) m m, .int .i64 C3]) rfl (by kernel_rfl) (by kernel_rfl) (by kernel_rfl) (fun _ _ _ h => h) (by rfl) (fun W hC => by go_simp) hHeld ?_
      simp only [Act.put, List.setIfInBounds_toArray, List.set_cons_zero, List.set_cons_succ]
      refine wpAnyH_ready (rs := [10]) (by kernel_rfl) (by simp) ?_
      refine AllReadyH.consU rfl (fun K' hK' => ?_) AllReadyH.nil
      go_simp
      refine hK'.out _ _ (HCLS.out _ (HG2W.out _ HG8.out) _ _) (fun hHeld => ?_)
      clear hK' K'
      refine wpAnyH_takeU (i := 11) (v := .bool true) rfl (by kernel_rfl) (by kernel_rfl) (by kernel_rfl) (fun _ _ _ h => h) (by rfl) (fun W hC => by go_simp) hHeld ?_
      simp only [Act.put, List.setIfInBounds_toArray, List.set_cons_zero, List.set_cons_succ]
      refine wpAnyH_done (by kernel_rfl) ?_ _
      go_wp2_with fail
      have HFI := hid (dub_arr (dub_set1 (dub_set0 HRR.out (.slice (some ⟨O, 0, none⟩) m m)) (.int .i64 C3)))
      refine bodyPost_ret (results_ctb rfl _ _ R 164 _ (0, 0) _ rfl HFI.out Tryz.underlying164 rfl (by kernel_rfl)) rfl ?_
      have hRw : w.heap.size ≤ R := by have := HRE.out; omega
      have hbR : ∀ x, x ≠ R → ((w8.setCell ⟨R, 0, none⟩ (.slice (some ⟨O, 0, none⟩) m m)).setCell ⟨R, 1, none⟩ (.int .i64 C3)).heap[x]? = w8.heap[x]? := fun x hx => (Below.heap_setCell _ _ _ _ (by show x ≠ R; exact hx)).trans (Below.heap_setCell _ _ _ _ (by show x ≠ R; exact hx))
      have hOR : O ≠ R := by have := HO7.out; have := HRE.out; have := HRX.out; have := (HG2W.out _ HGD.out).size; omega
      have hcR : c ≠ R := by omega
      refine ⟨fun _ => ⟨some ⟨O, 0, none⟩, m, by rw [HGN.out]; rfl, ?_, ?_⟩, fun h => absurd HYES.out h, ?_⟩
      · rw [HGN.out]
        exact arr_num (HA8.out.block (hbR O hOR)) HOL.out
      · rw [HGN.out]
        exact HP8.out.blocks (hbR c hcR) (fun x hx => hbR x (by have := HCN.out; omega))
      · exact gb_farU (gb_farU (HGW.out _ (HG2W.out _ HG8.out)) hRw 0 _) hRw 1 _

end Go.Proofs.YtpgnabmkfkcogaaGreatDoor
