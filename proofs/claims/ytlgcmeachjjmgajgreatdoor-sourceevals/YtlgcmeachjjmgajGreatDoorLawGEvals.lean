/- SourceEvals: the walk. -/
import Derived.Test.YtlgcmeachjjmgajGreatDoorFld
import Derived.Test.YtlgcmeachjjmgajGreatDoorRiL
namespace Go.Proofs.YtlgcmeachjjmgajGreatDoor
open Go.RowKit Go.Maps

theorem PgAt.beloE {lo : Nat} {w w' : World} {p : Nat} {fs : List FnT} (h : PgAt lo w p fs) (hb : Below w.heap.size w w') : PgAt lo w' p fs := by
  obtain ⟨pa, pc, B, h1, h2, h3, h4, h5, h6⟩ := h
  exact ⟨pa, pc, B, (hb.block _ (Array.getElem?_eq_some_iff.1 h1).1).trans h1, h2, h3, h4, h5.below hb, h6.below hb⟩
/-- how both Evals end -/
theorem ElR.both {n m : Nat} {fuel : Int} {w w' : World} {r : ER Int} {e : Ending} (h : ElR n m fuel w r e w') :
    (∃ z : Int, e = .returned (.tuple #[.agg #[.int .i64 0, .int .i64 0], .iface 72 (.int .i64 z)]) ∧ ∀ (v v' : World) (e' : Ending), RlR n m fuel v r e' v' → e' = .returned (.tuple #[.agg #[.int .i64 0, .int .i64 0], .int .i64 z]) ∧ Below v.heap.size v v') ∨
    (∃ (x : Int) (k : Nat), e = .returned (.tuple #[.agg #[.int .i64 x, .int .i64 (k : Int)], .nilIface]) ∧ ∀ (v v' : World) (e' : Ending), RlR n m fuel v r e' v' → e' = .returned (.tuple #[.agg #[.int .i64 x, .int .i64 (k : Int)], .int .i64 0]) ∧ Below v.heap.size v v') := by
  obtain ⟨_, h⟩ := h
  by_cases hn : n ≠ m
  · rw [if_pos hn] at h
    exact Or.inl ⟨2, h, fun v v' e' h' => by obtain ⟨hb, h'⟩ := h'; rw [if_pos hn] at h'; exact ⟨h', hb⟩⟩
  · rw [if_neg hn] at h
    by_cases hf : fuel < 0 ∨ 16384 < fuel
    · rw [if_pos hf] at h
      exact Or.inl ⟨3, h, fun v v' e' h' => by obtain ⟨hb, h'⟩ := h'; rw [if_neg hn, if_pos hf] at h'; exact ⟨h', hb⟩⟩
    · rw [if_neg hf] at h
      cases r with
      | out => exact h.elim
      | stop er => exact Or.inl ⟨er, h, fun v v' e' h' => by obtain ⟨hb, h'⟩ := h'; rw [if_neg hn, if_neg hf] at h'; exact ⟨h'.1, hb⟩⟩
      | val x k => exact Or.inr ⟨x, k, h, fun v v' e' h' => by obtain ⟨hb, h'⟩ := h'; rw [if_neg hn, if_neg hf] at h'; exact ⟨h', hb⟩⟩
theorem eq_val (x y : Int) (w : World) : (binOp BinOp.eql 36 (.agg #[.int .i64 x, .int .i64 y]) (.agg #[.int .i64 x, .int .i64 y])).run Tryz.prog w = .ok (.bool true) w := by
  simp [go_sem]

set_option maxRecDepth 100000 in
set_option maxHeartbeats 4000000 in
/-- where there is a field -/
theorem sevals_yes (q : Nat) (T : ByteArray) (aa : Option Addr) (ca : Nat) (args : List Int) (fuel : Int) (w : World) (hL : Laid w) (hEv : EvW w) (h3 : 3 ≤ q) (h4 : q ≤ 2147483647) (hpr : Num.Prime q) (hT : T.size ≤ 281474976710656) (hl : RowB w.heap.size w aa args) (hAb : Fits args) :
    Calls Tryz.prog 3 #[.int .i64 q, .string T, .slice aa args.length ca, .int .i64 fuel] w fun e w' => e = .returned (.bool true) ∧ Below w.heap.size w w' := by
  have heq := eq_val
  have HF := hid (field_yes q w h3 h4 hpr)
  have HLD := hid hL
  have HPS := hid (fun (W : World) (h : Below w.heap.size w W) => parse_is T W hT (hEv.below h))
  have HRP := hid (fun (W : World) => rparse_any T W hT)
  have HW := hid (fun (fs : List FnT) (j : Nat) (h : prs T = .ok fs j) => prs_ok h)
  obtain ⟨R, hR⟩ : ∃ R, R = fuel.toNat + 1 := ⟨_, rfl⟩
  have HEL := hid (fun (fb pg lo i : Nat) (fs : List FnT) (g : FnT) (W : World) (hb : Below w.heap.size w W) (hPg : PgAt lo W pg fs) (hp : W.cell? ⟨fb, 0, none⟩ = some (.int .i64 q)) (hF : FsOk fs) (hW : ∀ g, g ∈ fs → FW g) (hi : nmM fs fs.length mainW = some (i : Int)) (hgi : fs[i]? = some g) => seval_any q fb pg lo i h3 h4 hpr fs g W hPg hp hF hW hi hgi aa ca args.length fuel args ((hl.below hb).mono hb.size) hAb rfl R (by omega))
  have HER := hid (fun (lo c i : Nat) (a : Option Addr) (fs : List FnT) (Xs : List Nat) (g : FnT) (W : World) (hb : Below w.heap.size w W) (hF : RFl lo W a fs Xs) (hn : fs.length ≤ 4000) (hFs : FsOk fs) (hFW : ∀ g, g ∈ fs → FW g) (hgi : fs[i]? = some g) (hgn : g.name = mainW) => rfeval_any q lo c i R a fs Xs g W hF hn hFs hFW hgi hgn h3 h4 aa ca args.length args ((hl.below hb).mono hb.size) hAb rfl fuel (by omega))
  have HHI := hid (fun (z : Int) (W : World) (hb : Below w.heap.size w W) => error_hit z z W (hL.below hb))
  obtain ⟨na, hna⟩ : ∃ na, na = args.length := ⟨_, rfl⟩
  rw [← hna] at HEL HER ⊢
  unfold RpE at HRP
  generalize prs T = r at HPS HW HRP
  clear hl hL hpr hEv hAb hna hR hT
  go_enter Tryz.func3, Tryz.ntmps3
  go_wp2_with fail
  refine HF.out.mono ?_
  rintro e w1 ⟨rfl, hc1, hb1, hlt1⟩
  have HB1 := hid hb1
  have HK1 := hid hc1
  clear HF hc1 hb1 hlt1
  go_wp2_with fail
  refine (HPS.out w1 HB1.out).mono ?_
  intro e w2 he
  obtain ⟨hb2, he⟩ := he
  have HB2 := hid (HB1.out.trans (hb2.mono HB1.out.size))
  have HK2 := hid ((hb2.cell (p := ⟨w.heap.size, 0, none⟩) (World.block_lt_of_cell? _ _ HK1.out)).trans HK1.out)
  clear HPS HK1 HB1 hb2
  by_cases h40 : 4000 < T.size
  · rw [if_pos h40] at he
    subst he
    have HR2 := hid (HRP.out w2)
    simp only [if_pos h40] at HR2
    clear h40 HEL HER HRP
    go_wp2_with fail
    refine HR2.out.mono ?_
    rintro e w3 ⟨hb3, rfl⟩
    have HB3 := hid (HB2.out.trans (hb3.mono HB2.out.size))
    clear hb3 HR2
    go_wp2_with fail
    refine (HHI.out 9 w3 HB3.out).mono ?_
    rintro e w4 ⟨rfl, hb4⟩
    have HB4 := hid (HB3.out.trans (hb4.mono HB3.out.size))
    clear hb4
    go_wp2_with fail
    go_ret
    exact ⟨by simp, HB4.out⟩
  · rw [if_neg h40] at he
    have HR2 := hid (HRP.out w2)
    simp only [if_neg h40] at HR2
    clear HRP
    cases r with
    | out => exact he.elim
    | bad er at' =>
      have he' : e = .returned (.tuple #[.pointer none, .int .i64 (at' : Int), .iface 72 (.int .i64 (er : Int))]) := he
      subst he'
      clear h40 HEL HER
      go_wp2_with fail
      refine HR2.out.mono ?_
      rintro e w3 ⟨hb3, rfl, her⟩
      have HB3 := hid (HB2.out.trans (hb3.mono HB2.out.size))
      have bz : ((er : Int) != 0) = true := by simp; omega
      clear hb3 HR2 her
      go_wp2_with fail
      refine (HHI.out (er : Int) w3 HB3.out).mono ?_
      rintro e w4 ⟨rfl, hb4⟩
      have HB4 := hid (HB3.out.trans (hb4.mono HB3.out.size))
      have be : ((er : Int) == (er : Int)) = true := by simp
      clear hb4
      go_wp2_with fail
      go_ret
      exact ⟨by simp, HB4.out⟩
    | ok fs j =>
      obtain ⟨⟨pg, rfl, hPg⟩, hfw, hn4⟩ := he
      obtain ⟨hF, i, g, hgi, hgn, hi⟩ := HW.out fs j rfl
      have HPG := hid hPg
      have HFW := hid hfw
      have HFS := hid hF
      have HGI := hid hgi
      have HGN := hid hgn
      have HI := hid hi
      have HN4 := hid hn4
      clear hPg hfw hF hgi hgn hi hn4 h40 HW
      go_wp2_with fail
      refine HR2.out.mono ?_
      rintro e w3 ⟨hb3, a, c, Xs, rfl, hRF⟩
      have HB3 := hid (HB2.out.trans (hb3.mono HB2.out.size))
      have HE1 := hid (HEL.out w.heap.size pg _ i fs g w3 HB3.out (HPG.out.beloE hb3) ((hb3.cell (p := ⟨w.heap.size, 0, none⟩) (World.block_lt_of_cell? _ _ HK2.out)).trans HK2.out) HFS.out HFW.out HI.out HGI.out)
      have HE2 := hid (fun (W : World) (hb : Below w3.heap.size w3 W) => HER.out _ c i a fs Xs g W (HB3.out.trans (hb.mono HB3.out.size)) (hRF.keep (Nat.le_refl _) (fun b _ hl => hb.block b hl)) HN4.out HFS.out HFW.out HGI.out HGN.out)
      have HEN := hid (fun W => error_nil 0 W)
      clear hb3 HR2 hRF HEL HER HPG HFW HFS HGI HGN HI HN4 HK2 HB2
      generalize evE q fs g args fuel R = r1 at HE1 HE2
      generalize g.more.length = m at HE1 HE2
      generalize fs.length = nf at HE2 ⊢
      go_wp2_with fail
      refine (HEN.out w3).mono ?_
      rintro e w4 ⟨rfl, hw4⟩
      have hw5 := hw4.symm
      subst hw5
      go_wp2_with fail
      refine HE1.out.mono ?_
      intro e w4 he4
      have HB34 := hid he4.1
      have HB4 := hid (HB3.out.trans (he4.1.mono HB3.out.size))
      rcases he4.both with ⟨z, rfl, hbo⟩ | ⟨x, k, rfl, hbo⟩
      · have HBO := hid hbo
        obtain ⟨W4, hW4⟩ : ∃ W4, W4 = w4.alloc (.cells #[.int .i64 0, .int .i64 0] 36) := ⟨_, rfl⟩
        have hbb : Below w4.heap.size w4 W4 := by rw [hW4]; exact (Below.refl _ _).alloc (Nat.le_refl _) _
        have HA4 : Hid (W4.heap[w4.heap.size]? = some (.cells #[.int .i64 0, .int .i64 0] 36 (0, 0))) := by unfold Hid; rw [hW4]; exact heap_alloc_new w4 _
        have HB5 := hid (HB4.out.trans (hbb.mono HB4.out.size))
        have HB35 := hid (HB34.out.trans (hbb.mono HB34.out.size))
        clear hbb HB34 hbo he4 HE1
        go_wp2_with fail
        rw [← hW4]
        clear hW4
        refine (HE2.out W4 HB35.out).mono ?_
        intro e w5 he5
        obtain ⟨rfl, hb5⟩ := HBO.out _ _ _ he5
        have HB6 := hid (HB5.out.trans (hb5.mono HB5.out.size))
        have HA5 := hid ((hb5.block _ (Array.getElem?_eq_some_iff.1 HA4.out).1).trans HA4.out)
        obtain ⟨W5, hW5⟩ : ∃ W5, W5 = w5.alloc (.cells #[.int .i64 0, .int .i64 0] 36) := ⟨_, rfl⟩
        have hbb : Below w5.heap.size w5 W5 := by rw [hW5]; exact (Below.refl _ _).alloc (Nat.le_refl _) _
        have HA6 : Hid (W5.heap[w5.heap.size]? = some (.cells #[.int .i64 0, .int .i64 0] 36 (0, 0))) := by unfold Hid; rw [hW5]; exact heap_alloc_new w5 _
        have HA7 := hid ((hbb.block _ (Array.getElem?_eq_some_iff.1 HA5.out).1).trans HA5.out)
        have HB7 := hid (HB6.out.trans (hbb.mono HB6.out.size))
        clear hbb he5 hb5 HE2 HBO HA4 HA5 HB5 HB35 HB6
        go_wp2_with fail
        rw [← hW5]
        clear hW5
        refine (HHI.out z W5 HB7.out).mono ?_
        rintro e w6 ⟨rfl, hb6⟩
        have HB8 := hid (HB7.out.trans (hb6.mono HB7.out.size))
        have g1 := (hb6.block _ (Array.getElem?_eq_some_iff.1 HA7.out).1).trans HA7.out
        have g2 := (hb6.block _ (Array.getElem?_eq_some_iff.1 HA6.out).1).trans HA6.out
        have l0 : w6.cell? ⟨w4.heap.size, 0, none⟩ = some (.int .i64 0) := by simp [World.cell?, g1]
        have l1 : w6.cell? ⟨w4.heap.size, 1, none⟩ = some (.int .i64 0) := by simp [World.cell?, g1]
        have m0 : w6.cell? ⟨w5.heap.size, 0, none⟩ = some (.int .i64 0) := by simp [World.cell?, g2]
        have m1 : w6.cell? ⟨w5.heap.size, 1, none⟩ = some (.int .i64 0) := by simp [World.cell?, g2]
        have be : (z == z) = true := by simp
        clear hb6 HA6 HA7 HB7 g1 g2
        go_wp2_with fail
        go_ret
        exact ⟨by simp, HB8.out⟩
      · have HBO := hid hbo
        obtain ⟨W4, hW4⟩ : ∃ W4, W4 = w4.alloc (.cells #[.int .i64 x, .int .i64 (k : Int)] 36) := ⟨_, rfl⟩
        have hbb : Below w4.heap.size w4 W4 := by rw [hW4]; exact (Below.refl _ _).alloc (Nat.le_refl _) _
        have HA4 : Hid (W4.heap[w4.heap.size]? = some (.cells #[.int .i64 x, .int .i64 (k : Int)] 36 (0, 0))) := by unfold Hid; rw [hW4]; exact heap_alloc_new w4 _
        have HB5 := hid (HB4.out.trans (hbb.mono HB4.out.size))
        have HB35 := hid (HB34.out.trans (hbb.mono HB34.out.size))
        replace hW4 := hW4.symm
        clear hbb HB34 hbo he4 HE1
        go_wp2_with fail
        clear hW4
        refine (HE2.out W4 HB35.out).mono ?_
        intro e w5 he5
        obtain ⟨rfl, hb5⟩ := HBO.out _ _ _ he5
        have HB6 := hid (HB5.out.trans (hb5.mono HB5.out.size))
        have HA5 := hid ((hb5.block _ (Array.getElem?_eq_some_iff.1 HA4.out).1).trans HA4.out)
        obtain ⟨W5, hW5⟩ : ∃ W5, W5 = w5.alloc (.cells #[.int .i64 x, .int .i64 (k : Int)] 36) := ⟨_, rfl⟩
        have hbb : Below w5.heap.size w5 W5 := by rw [hW5]; exact (Below.refl _ _).alloc (Nat.le_refl _) _
        have HA6 : Hid (W5.heap[w5.heap.size]? = some (.cells #[.int .i64 x, .int .i64 (k : Int)] 36 (0, 0))) := by unfold Hid; rw [hW5]; exact heap_alloc_new w5 _
        have HA7 := hid ((hbb.block _ (Array.getElem?_eq_some_iff.1 HA5.out).1).trans HA5.out)
        have HB7 := hid (HB6.out.trans (hbb.mono HB6.out.size))
        replace hW5 := hW5.symm
        clear hbb he5 hb5 HE2 HBO HA4 HA5 HB5 HB35 HB6
        go_wp2_with fail
        clear hW5
        refine (HEN.out W5).mono ?_
        rintro e w6 ⟨rfl, hw6⟩
        have hw7 := hw6.symm
        subst hw7
        have g1 := HA7.out
        have g2 := HA6.out
        have l0 : W5.cell? ⟨w4.heap.size, 0, none⟩ = some (.int .i64 x) := by simp [World.cell?, g1]
        have l1 : W5.cell? ⟨w4.heap.size, 1, none⟩ = some (.int .i64 (k : Int)) := by simp [World.cell?, g1]
        have m0 : W5.cell? ⟨w5.heap.size, 0, none⟩ = some (.int .i64 x) := by simp [World.cell?, g2]
        have m1 : W5.cell? ⟨w5.heap.size, 1, none⟩ = some (.int .i64 (k : Int)) := by simp [World.cell?, g2]
        clear HA6 HA7 g1 g2
        go_wp2_with fail
        go_ret
        exact ⟨by simp, HB7.out⟩

set_option maxRecDepth 100000 in
set_option maxHeartbeats 1000000 in
theorem sevals_walk (p : Int) (T : ByteArray) (aa : Option Addr) (ca : Nat) (args : List Int) (fuel : Int) (w : World) (hL : Laid w) (hEv : EvW w) (hp1 : -9223372036854775808 ≤ p) (hp2 : p ≤ 9223372036854775807) (hT : T.size ≤ 281474976710656) (hl : RowB w.heap.size w aa args) (hAb : Fits args) :
    Calls Tryz.prog 3 #[.int .i64 p, .string T, .slice aa args.length ca, .int .i64 fuel] w fun e w' => e = .returned (.bool true) ∧ Below w.heap.size w w' := by
  by_cases hok : okPrime p
  · obtain ⟨q, rfl⟩ := Int.eq_ofNat_of_zero_le (show 0 ≤ p by have := hok.1; omega)
    obtain ⟨h3, h4, hpr⟩ := hok
    rw [Int.toNat_natCast] at hpr
    exact sevals_yes q T aa ca args fuel w hL hEv (by omega) (by omega) hpr hT hl hAb
  · have HF := hid (field_no p w hL hok hp1 hp2)
    generalize args.length = na
    clear hl hAb hL hok hp1 hp2 hEv hT
    go_enter Tryz.func3, Tryz.ntmps3
    go_wp2_with fail
    refine HF.out.mono ?_
    rintro e w1 ⟨rfl, hb1⟩
    have HB1 := hid hb1
    clear hb1 HF
    go_wp2_with fail
    go_ret
    exact ⟨rfl, HB1.out⟩

end Go.Proofs.YtlgcmeachjjmgajGreatDoor
