/- PledgeKeeps: the walk. -/
import Derived.Test.YtmmlphdekeflfaaDoorPgK
import Derived.Test.YtmmlphdekeflfaaDoorPgT
import Derived.Test.YtmmlphdekeflfaaDoorFolT
namespace Go.Proofs.YtmmlphdekeflfaaDoor
open Go.RowKit

theorem mixz_fits {q : Nat} (h3 : 3 ≤ q) (h4 : q ≤ 2147483647) (rows : List (List Int)) (x : Int) : Fits (mixz q rows x) := fun j hj => by
  rw [mixz_len] at hj
  unfold mixz
  rw [ls_at _ _ _ hj]
  have := evz_bounds q (pgc rows j) x h3
  omega

set_option maxRecDepth 100000 in
set_option maxHeartbeats 1000000 in
/-- the closed fact: 1 and 1, mixed by 2, are 3 -/
theorem fact10 (q b : Nat) (w : World) (h3 : 5 ≤ q) (hm : q ≤ 2147483647) (hp : w.cell? ⟨b, 0, none⟩ = some (.int .i64 q)) :
    Calls Tryd.prog 5 #[.pointer (some ⟨b, 0, none⟩), .slice (some ⟨w.heap.size + 1 + 1, 0, none⟩) 2 2, .int .i64 2] (((w.alloc (.cells #[.int .i64 1] 3)).alloc (.cells #[.int .i64 1] 3)).alloc (.cells #[.slice (some ⟨w.heap.size, 0, none⟩) 1 1, .slice (some ⟨w.heap.size + 1, 0, none⟩) 1 1] 27)) fun e w' =>
      ∃ g, e = .returned (.tuple #[.slice (some ⟨g, 0, none⟩) 1 1, .nilIface]) ∧ w'.cell? ⟨g, 0, none⟩ = some (.int .i64 3) ∧ Below w.heap.size w w' := by
  obtain ⟨W1, hW1⟩ : ∃ W1, W1 = w.alloc (.cells #[.int .i64 1] 3) := ⟨_, rfl⟩
  obtain ⟨W2, hW2⟩ : ∃ W2, W2 = W1.alloc (.cells #[.int .i64 1] 3) := ⟨_, rfl⟩
  obtain ⟨W3, hW3⟩ : ∃ W3, W3 = W2.alloc (.cells #[.slice (some ⟨w.heap.size, 0, none⟩) 1 1, .slice (some ⟨w.heap.size + 1, 0, none⟩) 1 1] 27) := ⟨_, rfl⟩
  have hz1 : W1.heap.size = w.heap.size + 1 := by rw [hW1]; simp
  have hz2 : W2.heap.size = w.heap.size + 1 + 1 := by rw [hW2]; simp [hz1]
  have hz3 : W3.heap.size = w.heap.size + 1 + 1 + 1 := by rw [hW3]; simp [hz2]
  have hs1 : W1.heap[w.heap.size]? = some (.cells #[.int .i64 1] 3 (0, 0)) := by rw [hW1]; exact heap_alloc_new w _
  have hs2 : W2.heap[w.heap.size + 1]? = some (.cells #[.int .i64 1] 3 (0, 0)) := by rw [hW2, ← hz1]; exact heap_alloc_new W1 _
  have hs3 : W3.heap[w.heap.size + 1 + 1]? = some (.cells #[.slice (some ⟨w.heap.size, 0, none⟩) 1 1, .slice (some ⟨w.heap.size + 1, 0, none⟩) 1 1] 27 (0, 0)) := by rw [hW3, ← hz2]; exact heap_alloc_new W2 _
  have hb1 : Below w.heap.size w W1 := by rw [hW1]; exact (Below.refl _ _).alloc (Nat.le_refl _) _
  have hb2 : Below W1.heap.size W1 W2 := by rw [hW2]; exact (Below.refl _ _).alloc (Nat.le_refl _) _
  have hb3 : Below W2.heap.size W2 W3 := by rw [hW3]; exact (Below.refl _ _).alloc (Nat.le_refl _) _
  have hb13 : Below w.heap.size w W3 := (hb1.trans (hb2.mono (by omega))).trans (hb3.mono (by omega))
  have x1 : W3.cell? ⟨w.heap.size, 0, none⟩ = some (.int .i64 1) := (hb3.cell (p := ⟨w.heap.size, 0, none⟩) (by show w.heap.size < W2.heap.size; omega)).trans ((hb2.cell (p := ⟨w.heap.size, 0, none⟩) (by show w.heap.size < W1.heap.size; omega)).trans (by simp [World.cell?, hs1]))
  have x2 : W3.cell? ⟨w.heap.size + 1, 0, none⟩ = some (.int .i64 1) := (hb3.cell (p := ⟨w.heap.size + 1, 0, none⟩) (by show w.heap.size + 1 < W2.heap.size; omega)).trans (by simp [World.cell?, hs2])
  have hL : LstR W3.heap.size W3 (some ⟨w.heap.size + 1 + 1, 0, none⟩) 2 [[1], [1]] := ⟨fun k hk => by
    have : k = 0 ∨ k = 1 := by simp at hk; omega
    rcases this with rfl | rfl
    · exact ⟨w.heap.size + 1 + 1, 0, some ⟨w.heap.size, 0, none⟩, 1, rfl, by omega, by simp [World.cell?, hs3, rat], fun j hj => by
        obtain rfl : j = 0 := by simp [rat] at hj; omega
        exact ⟨w.heap.size, 0, rfl, by omega, by simpa [rat, zat] using x1⟩, by simp [rat], fun e => by cases e⟩
    · exact ⟨w.heap.size + 1 + 1, 0, some ⟨w.heap.size + 1, 0, none⟩, 1, rfl, by omega, by simp [World.cell?, hs3, rat], fun j hj => by
        obtain rfl : j = 0 := by simp [rat] at hj; omega
        exact ⟨w.heap.size + 1, 0, rfl, by omega, by simpa [rat, zat] using x2⟩, by simp [rat], fun e => by cases e⟩, by simp, fun e => by cases e⟩
  have hF : FitsR [[1], [1]] := fun k hk => by
    have : k = 0 ∨ k = 1 := by simp at hk; omega
    rcases this with rfl | rfl <;> exact ⟨fun j hj => by
      obtain rfl : j = 0 := by simp [rat] at hj; omega
      simp [rat, zat], by simp [rat]⟩
  have hbw := heap_lt hp
  have h := mix_any q b 2 2 (some ⟨w.heap.size + 1 + 1, 0, none⟩) [[1], [1]] W3 (by omega) hm ((hb13.cell (p := ⟨b, 0, none⟩) hbw).trans hp) (by omega) (by omega) (by omega) (by simp) hF hL
  rw [← hW1, ← hW2, ← hW3]
  refine h.mono ?_
  rintro e w' ⟨hb, hy, _⟩
  obtain ⟨g, rfl, hl⟩ := hy ⟨by simp, by simp [wiB, rat]⟩
  refine ⟨g, rfl, ?_, hb13.trans (hb.mono (by omega))⟩
  obtain ⟨b', o', e1, _, hx⟩ := hl.row 0 (by rw [mixz_len]; simp [rat])
  injection e1 with e1
  injection e1 with e1 e2
  subst e1 e2
  have : zat (mixz q [[1], [1]] 2) 0 = 3 := by
    unfold mixz
    rw [ls_at _ _ _ (by simp [rat])]
    simp [evz, pgc, Pol.ps, zat]
    exact Int.emod_eq_of_lt (by omega) (by omega)
  rw [this] at hx
  simpa using hx

set_option maxRecDepth 100000 in
set_option maxHeartbeats 4000000 in
theorem ekeeps_good (q k0 : Nat) (s K : Int) (a4 : Option Addr) (c4 : Nat) (rows : List (List Int)) (w : World) (hg : GoodT q k0 s) (hs1 : -9223372036854775808 ≤ s) (hs2 : s ≤ 9223372036854775807) (hK1 : -9223372036854775808 ≤ K) (hK2 : K ≤ 9223372036854775807)
    (hn : rows.length ≤ 17592186044000) (hF : FitsR rows) (hl : LstR w.heap.size w a4 c4 rows) :
    Calls Tryd.prog 3 #[.int .i64 q, .int .i64 ((2 ^ k0 : Nat) : Int), .int .i64 s, .int .i64 K, .slice a4 rows.length c4] w fun e w' => e = .returned (.bool true) ∧ Below w.heap.size w w' := by
  have h23 := hg.h23
  have h3 := hg.at'.h3
  have h4 := hg.at'.h4
  have hkN := two_pow_le hg.at'.hk
  have hN0 : 0 < 2 ^ k0 := Nat.two_pow_pos k0
  have HTH := hid (things_yes q k0 s w hg hs1 hs2)
  have HF := hid hF
  have HL := hid hl
  obtain ⟨N, hN⟩ : ∃ N, N = 2 ^ k0 := ⟨_, rfl⟩
  simp only [← hN] at HTH hkN hN0 ⊢
  obtain ⟨t, ht⟩ : ∃ t, t = s % (q : Int) := ⟨_, rfl⟩
  rw [← ht] at HTH
  obtain ⟨n, hnn⟩ : ∃ n, n = rows.length := ⟨_, rfl⟩
  have HN := hid hnn
  rw [← hnn] at hn ⊢
  clear hg hF hl hN ht hnn
  go_enter Tryd.func3, Tryd.ntmps3
  go_wp2_with fail
  refine HTH.out.mono ?_
  rintro e w1 ⟨sp, b, PN, dd, d, r, rfl, hok, hsp, _, hD, hb1⟩
  have HS1 := hid hsp
  have HD1 := hid hD
  have HB1 := hid hb1
  clear hok hsp hD hb1 HTH
  go_wp2_with fail
  refine (sfield_any q PN dd b sp w1 HS1.out).mono ?_
  rintro e w2 ⟨rfl, hw2⟩
  have hw2' := hw2.symm
  subst hw2'
  clear hw2
  go_wp2_with fail
  refine (fact10 q b w1 (by omega) h4 HS1.out.p).mono ?_
  rintro e w3 ⟨g, rfl, hg3, hb3⟩
  have HS3 := hid (HS1.out.keep hb3)
  have HD3 := hid (HD1.out.step hb3)
  have HB3 : Hid (Below w.heap.size w w3) := HB1.out.trans (hb3.mono HB1.out.size)
  clear hb3 HS1 HD1 HB1
  by_cases k1 : K < 1
  · go_wp2_with fail
    go_ret
    exact ⟨rfl, HB3.out⟩
  by_cases k2 : (N : Int) < K
  · go_wp2_with fail
    go_ret
    exact ⟨rfl, HB3.out⟩
  by_cases k3 : n = 0
  · have k3' : (n : Int) = 0 := by omega
    go_wp2_with fail
    go_ret
    exact ⟨rfl, HB3.out⟩
  have k3' : ((n : Int) == 0) = false := by rw [beq_eq_false_iff_ne]; omega
  by_cases k4 : (200 : Int) < (q : Int)
  · go_wp2_with fail
    go_ret
    exact ⟨rfl, HB3.out⟩
  go_wp2_with fail
  obtain ⟨kk, hkk⟩ := Int.eq_ofNat_of_zero_le (show 0 ≤ K by omega)
  have HKK := hid hkk
  have hkk1 : 1 ≤ kk := by omega
  have hkk2 : kk ≤ N := by omega
  have hq200 : q ≤ 200 := by omega
  have HLW : Hid (∀ wr, Below w3.heap.size w3 wr → LstR wr.heap.size wr a4 c4 rows) := fun wr h => by
    have hbw := HB3.out.trans (h.mono HB3.out.size)
    exact (HL.out.below hbw).mono hbw.size
  have HCI := hid HD3.out.cir
  have HNN := hid HD3.out.nnd
  obtain ⟨Lo, hLo⟩ : ∃ Lo : List Int → Bool, Lo = fun zs => decide ((bk q N r t zs).length ≤ kk) := ⟨_, rfl⟩
  have HLo := hid hLo
  have HIS : Hid (∀ (wr : World) (a : Option Addr) (cap : Nat) (zs : List Int), Below w3.heap.size w3 wr → zs.length = N → Fits zs → Lst wr.heap.size wr a cap zs → Calls Tryd.prog 7 #[.pointer (some ⟨d, 0, none⟩), .int .i64 K, .slice a N cap] wr fun e w' => e = .returned (.bool (Lo zs)) ∧ Below wr.heap.size wr w') :=
    fun wr a cap zs h1 h2 h5 h6 => by rw [hLo, HKK.out]; exact is_any (HD3.out.step h1) kk a cap zs hkk1 hkk2 h2 h5 h6
  clear hLo hK1 hK2 k1 k2 k4 hkk
  go_loopw [16, 17] (fun av iv wr => ∃ (i : Nat) (al : Bool), i ≤ n ∧ iv = .int .i64 (i : Int) ∧ av = .bool al ∧ Hid ((al = true ↔ ∀ j, j < i → Lo (rat rows j) = true) ∧ (∀ j, j < i → (rat rows j).length = N) ∧ Below w3.heap.size w3 wr)) (fun _ iv _ => n - (intOf iv).toNat)
  case atStart => exact ⟨0, true, by omega, rfl, rfl, ⟨fun _ j hj => by omega, fun _ => rfl⟩, fun j hj => by omega, Below.refl _ _⟩
  case round =>
    obtain ⟨i, al, hi, rfl, rfl, HI⟩ := hrel
    by_cases hlt : i < n
    · have hlt2 : (i : Int) < (n : Int) := by omega
      have his : IntKind.i64.wrap ((i : Int) + 1) = (i : Int) + 1 := by rw [IntKind.wrap_i64]; omega
      obtain ⟨b0, o0, ak, ck, rfl, hb0, hc, hlk⟩ := (HLW.out wr HI.out.2.2).row i (by rw [← HN.out]; exact hlt)
      by_cases hlen : (rat rows i).length = N
      · have HX := hid (HIS.out wr ak ck (rat rows i) HI.out.2.2 hlen (HF.out i (by rw [← HN.out]; exact hlt)).1 hlk)
        rw [hlen] at hc
        have HAL : Hid (∀ j, j < i + 1 → (rat rows j).length = N) := fun j hj => by
          by_cases e : j = i
          · rw [e]; exact hlen
          · exact HI.out.2.1 j (by omega)
        clear hlk hlen
        cases hlo : Lo (rat rows i) with
        | true =>
          rw [hlo] at HX
          have HE : Hid (al = true ↔ ∀ j, j < i + 1 → Lo (rat rows j) = true) := by
            refine HI.out.1.trans ⟨fun h j hj => ?_, fun h j hj => h j (by omega)⟩
            by_cases e : j = i
            · rw [e]; exact hlo
            · exact h j (by omega)
          clear hlo
          go_wp2_with fail
          refine HX.out.mono ?_
          rintro e w4 ⟨rfl, hb4⟩
          have HB4 : Hid (Below w3.heap.size w3 w4) := HI.out.2.2.trans (hb4.mono HI.out.2.2.size)
          clear HX hb4 HI
          go_wp2_with fail
          go_roundw
          case rel => exact ⟨i + 1, al, by omega, by go_num, rfl, HE.out, HAL.out, HB4.out⟩
          case measure => simp [intOf]; omega
        | false =>
          rw [hlo] at HX
          have HE : Hid (false = true ↔ ∀ j, j < i + 1 → Lo (rat rows j) = true) := by
            refine Iff.intro (fun h => nomatch h) (fun h => ?_)
            have := h i (by omega)
            rw [hlo] at this
            exact this
          clear hlo
          go_wp2_with fail
          refine HX.out.mono ?_
          rintro e w4 ⟨rfl, hb4⟩
          have HB4 : Hid (Below w3.heap.size w3 w4) := HI.out.2.2.trans (hb4.mono HI.out.2.2.size)
          clear HX hb4 HI
          go_wp2_with fail
          go_roundw
          case rel => exact ⟨i + 1, false, by omega, by go_num, rfl, HE.out, HAL.out, HB4.out⟩
          case measure => simp [intOf]; omega
      · have hlen2 : ¬ ((rat rows i).length : Int) = (N : Int) := by omega
        have HBE : Hid (Below w.heap.size w wr) := HB3.out.trans (HI.out.2.2.mono HB3.out.size)
        clear hlk HI hlen
        generalize (rat rows i).length = L at *
        go_wp2_with fail
        go_ret
        exact ⟨rfl, HBE.out⟩
    · obtain rfl : i = n := by omega
      have hlt2 : ¬ (i : Int) < (i : Int) := by omega
      have HALL := hid HI.out.1
      have hlens := HI.out.2.1
      have h0 : (rat rows 0).length = N := hlens 0 (by omega)
      have HMO : Hid (MixOk rows) := ⟨by have := HN.out; omega, by rw [h0]; exact wiB_yes (fun j hj => hlens j (by rw [HN.out]; exact hj))⟩
      have HBR := hid HI.out.2.2
      obtain ⟨P, hP⟩ : ∃ P : Nat → Bool, P = fun x => Lo (mixz q rows ((x : Nat) : Int)) := ⟨_, rfl⟩
      have HP := hid hP
      have HMI : Hid (∀ (W : World) (x : Nat), Below wr.heap.size wr W → x < q → Calls Tryd.prog 5 #[.pointer (some ⟨b, 0, none⟩), .slice a4 i c4, .int .i64 (x : Int)] W fun e w' => ∃ g, e = .returned (.tuple #[.slice (some ⟨g, 0, none⟩) N N, .nilIface]) ∧ Lst w'.heap.size w' (some ⟨g, 0, none⟩) N (mixz q rows (x : Int)) ∧ Below W.heap.size W w') := fun W x hW hx => by
        have hbw := HBR.out.trans (hW.mono HBR.out.size)
        have hd := HD3.out.step hbw
        have h := mix_any q b c4 (x : Int) a4 rows W h3 h4 hd.hp hd.blt (by omega) (by omega) (by rw [← HN.out]; exact hn) HF.out (HLW.out W hbw)
        rw [← HN.out] at h
        refine h.mono ?_
        rintro e w' ⟨k1, k2, _⟩
        obtain ⟨g, k5, k6⟩ := k2 HMO.out
        rw [h0] at k5 k6
        exact ⟨g, k5, k6, k1⟩
      have HMF : Hid (∀ x : Int, (mixz q rows x).length = N ∧ Fits (mixz q rows x)) := fun x => ⟨by rw [mixz_len, h0], mixz_fits h3 h4 rows x⟩
      have HSF : Hid (∀ W, Below wr.heap.size wr W → Calls Tryd.prog 6 #[.pointer (some ⟨sp, 0, none⟩)] W fun e w' => e = .returned (.pointer (some ⟨b, 0, none⟩)) ∧ w' = W) := fun W hW =>
        sfield_any q PN dd b sp W (HS3.out.keep (HBR.out.trans (hW.mono HBR.out.size)))
      have HFIN : Hid ((al = true → Cod.cnt P q = q) ∧ (al = false → Cod.cnt P q < i)) := by
        refine ⟨fun h => ?_, fun h => ?_⟩
        · have hh := HALL.out.1 h
          rw [Cod.cnt_congr (Q := fun _ => true) (fun x _ => by
            rw [hP]
            show Lo (mixz q rows ((x : Nat) : Int)) = true
            rw [HLo.out]
            exact decide_eq_true (keeps_all HCI.out HNN.out rows kk h0 (fun j hj => by
              have := hh j (by rw [HN.out]; exact hj)
              rw [HLo.out] at this
              exact of_decide_eq_true this) _))]
          exact cnt_true q
        · have hh : ¬ ∀ j, j < i → Lo (rat rows j) = true := fun g => by
            have := HALL.out.2 g
            rw [h] at this
            cases this
          obtain ⟨j, hj⟩ := Classical.not_forall.1 hh
          obtain ⟨hj1, hj2⟩ := Classical.not_imp.1 hj
          rw [HLo.out] at hj2
          have := keeps_few HCI.out HNN.out rows kk h0 (i := j) (by rw [← HN.out]; exact hj1) (fun g => hj2 (decide_eq_true g))
          rw [hP, HLo.out]
          rw [← HN.out] at this
          exact this
      clear HI hlens h0 hP HALL
      go_wp2_with fail
      go_loopw [19, 20] (fun cv xv wq => ∃ x c : Nat, x ≤ q ∧ xv = .int .i64 (x : Int) ∧ cv = .int .i64 (c : Int) ∧ c ≤ x ∧ Hid (c = Cod.cnt P x ∧ Below wr.heap.size wr wq)) (fun _ xv _ => q - (intOf xv).toNat)
      case atStart => exact ⟨0, 0, by omega, rfl, rfl, by omega, rfl, Below.refl _ _⟩
      case round =>
        obtain ⟨x, c, hx, rfl, rfl, hcx, HJ⟩ := hrel
        by_cases hxl : x < q
        · have hxl2 : (x : Int) < (q : Int) := by omega
          have hxs : IntKind.i64.wrap ((x : Int) + 1) = (x : Int) + 1 := by rw [IntKind.wrap_i64]; omega
          have hcs : IntKind.i64.wrap ((c : Int) + 1) = (c : Int) + 1 := by rw [IntKind.wrap_i64]; omega
          rename_i wq _
          go_wp2_with fail
          refine (HSF.out _ HJ.out.2).mono ?_
          rintro e w5 ⟨rfl, hw5⟩
          have hw5' := hw5.symm
          subst hw5'
          clear hw5
          go_wp2_with fail
          refine (HMI.out _ x HJ.out.2 hxl).mono ?_
          rintro e w6 ⟨g6, rfl, hl6, hb6⟩
          have HB6 := hid (HJ.out.2.trans (hb6.mono HJ.out.2.size))
          have HX := hid (HIS.out w6 (some ⟨g6, 0, none⟩) N (mixz q rows (x : Int)) (HBR.out.trans (HB6.out.mono HBR.out.size)) (HMF.out _).1 (HMF.out _).2 hl6)
          have HPX : Hid (Lo (mixz q rows (x : Int)) = P x) := by unfold Hid; rw [HP.out]
          rw [HPX.out] at HX
          have HCN : Hid (Cod.cnt P (x + 1) = c + if P x then 1 else 0) := by unfold Hid; rw [HJ.out.1]; rfl
          clear hl6 hb6 HJ HPX
          cases hpx : P x with
          | true =>
            rw [hpx] at HX HCN
            go_wp2_with fail
            refine HX.out.mono ?_
            rintro e w7 ⟨rfl, hb7⟩
            have HB7 := hid (HB6.out.trans (hb7.mono HB6.out.size))
            clear hb7 HX
            go_wp2_with fail
            go_roundw
            case rel => exact ⟨x + 1, c + 1, by omega, by go_num, by go_num, by omega, by rw [HCN.out]; rfl, HB7.out⟩
            case measure => simp [intOf]; omega
          | false =>
            rw [hpx] at HX HCN
            go_wp2_with fail
            refine HX.out.mono ?_
            rintro e w7 ⟨rfl, hb7⟩
            have HB7 := hid (HB6.out.trans (hb7.mono HB6.out.size))
            clear hb7 HX
            go_wp2_with fail
            go_roundw
            case rel => exact ⟨x + 1, c, by omega, by go_num, rfl, by omega, by rw [HCN.out]; rfl, HB7.out⟩
            case measure => simp [intOf]; omega
        · obtain rfl : x = q := by omega
          have hxl2 : ¬ (x : Int) < (x : Int) := by omega
          have HBE : Hid (Below w.heap.size w _) := (HB3.out.trans (HBR.out.mono HB3.out.size)).trans (HJ.out.2.mono ((HB3.out.trans (HBR.out.mono HB3.out.size)).size))
          have HC1 := HFIN.out
          rw [← HJ.out.1] at HC1
          have his1 : IntKind.i64.wrap ((i : Int) - 1) = (i : Int) - 1 := by rw [IntKind.wrap_i64]; omega
          cases al with
          | true =>
            have hc1 := HC1.1 rfl
            subst hc1
            clear HJ HC1
            go_wp2_with fail
            go_ret
            exact ⟨by first | rfl | simp, HBE.out⟩
          | false =>
            have hc1 := HC1.2 rfl
            have hc2 : (c : Int) ≤ (i : Int) - 1 := by omega
            clear HJ HC1
            go_wp2_with fail
            go_ret
            exact ⟨by first | rfl | simp [hc2], HBE.out⟩

set_option maxRecDepth 100000 in
theorem ekeeps_walk (p n s K : Int) (a4 : Option Addr) (c4 : Nat) (rows : List (List Int)) (w : World) (hL : Laid w) (hp1 : -9223372036854775808 ≤ p) (hp2 : p ≤ 9223372036854775807) (hn1 : -9223372036854775808 ≤ n) (hn2 : n ≤ 9223372036854775807) (hs1 : -9223372036854775808 ≤ s) (hs2 : s ≤ 9223372036854775807) (hK1 : -9223372036854775808 ≤ K) (hK2 : K ≤ 9223372036854775807)
    (hn : rows.length ≤ 17592186044000) (hF : FitsR rows) (hl : LstR w.heap.size w a4 c4 rows) :
    Calls Tryd.prog 3 #[.int .i64 p, .int .i64 n, .int .i64 s, .int .i64 K, .slice a4 rows.length c4] w fun e w' => e = .returned (.bool true) ∧ Below w.heap.size w w' := by
  by_cases hg : Good10 p n s
  · obtain ⟨q, k, rfl, rfl, hg⟩ := hg
    exact ekeeps_good q k s K a4 c4 rows w hg hs1 hs2 hK1 hK2 hn hF hl
  · have HTH := hid (things_no p n s w hL hg hp1 hp2 hn1 hn2 hs1 hs2)
    clear hl hF hL
    go_enter Tryd.func3, Tryd.ntmps3
    go_wp2_with fail
    refine HTH.out.mono ?_
    rintro e w1 ⟨rfl, hb1⟩
    have HB1 := hid hb1
    clear hb1
    go_wp2_with fail
    go_ret
    exact ⟨rfl, HB1.out⟩

end Go.Proofs.YtmmlphdekeflfaaDoor
