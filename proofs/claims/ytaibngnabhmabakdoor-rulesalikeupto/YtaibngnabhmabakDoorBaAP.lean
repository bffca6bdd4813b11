/- attestref8: Pairs, Alike. The column of products: any rows; the reference's. -/
import Derived.Test.YtaibngnabhmabakDoorBaAN
import Derived.Test.YtaibngnabhmabakDoorRuM
import Derived.Test.YtaibngnabhmabakDoorSpgs
namespace Go.Proofs.YtaibngnabhmabakDoor
open Go.RowKit

/-- the state of Pairs within a row -/
structure RpI (q i k a v : Nat) (rows : List (List Int)) (uv : Value) (w wr : World) : Prop where
  cel : CelR w.heap.size wr uv (pr4 q (rows.take i) a v ++ ((rw4 (rat rows i) a v).take k).map (red q))
  bel : Below w.heap.size w wr

set_option maxRecDepth 100000 in
set_option maxHeartbeats 4000000 in
theorem rpairs_any (q c a v : Nat) (ad : Option Addr) (rows : List (List Int)) (w : World) (h3 : 3 ≤ q) (h4 : q ≤ 2147483647) (hL : LstR w.heap.size w ad c rows) (hF : FitsR rows) (hn : rows.length ≤ 2000000000000)
    (hg : allGe 20 rows) (ha : a + 4 ≤ 20) (hv : v + 4 ≤ 20) :
    Calls Tryd.prog 24 #[.int .i64 q, .slice ad rows.length c, .int .i64 (a : Int), .int .i64 (v : Int)] w fun e w' => ∃ uv, e = .returned uv ∧ CelR w.heap.size w' uv (pr4 q rows a v) ∧ Below w.heap.size w w' := by
  have HL := hid hL
  have HF := hid hF
  have HG := hid hg
  obtain ⟨n, hn'⟩ : ∃ n, n = rows.length := ⟨_, rfl⟩
  have HN := hid hn'
  rw [← hn'] at hn ⊢
  clear hL hF hg hn'
  go_enter Tryd.func24, Tryd.ntmps24
  go_wp2_with fail
  go_loopw [9, 10, 11, 12, 13] (fun uv iv _ _ _ wr => ∃ i : Nat, i ≤ n ∧ iv = .int .i64 i ∧ Hid (CelR w.heap.size wr uv (pr4 q (rows.take i) a v)) ∧ Hid (Below w.heap.size w wr)) (fun _ iv _ _ _ _ => n - (intOf iv).toNat)
  case atStart => exact ⟨0, Nat.zero_le _, rfl, World.ownsRow_nil _ _ _ _, Below.refl _ _⟩
  case round =>
    obtain ⟨i, hi, rfl, HC, HB⟩ := hrel
    by_cases hlt : i < n
    · have hlt2 : (i : Int) < (n : Int) := by omega
      have his : IntKind.i64.wrap ((i : Int) + 1) = (i : Int) + 1 := by rw [IntKind.wrap_i64]; omega
      obtain ⟨g, o, ak, ck, rfl, hg0, hc, hrl⟩ := HL.out.row i (by have := HN.out; omega)
      have hfi := HF.out i (by have := HN.out; omega)
      have hge := HG.out i (by have := HN.out; omega)
      have HI0 : Hid (RpI q i 0 a v rows u9 w wr) := ⟨by rw [List.take_zero, List.map_nil, List.append_nil]; exact HC.out, HB.out⟩
      have HLN : Hid ((pr4 q (rows.take i) a v).length ≤ 8000000000000) := by
        unfold Hid
        rw [pr4_len, List.length_take]
        omega
      have HTK : Hid (pr4 q (rows.take (i + 1)) a v = pr4 q (rows.take i) a v ++ (rw4 (rat rows i) a v).map (red q)) := pr4_take q rows a v i (by have := HN.out; omega)
      have HFI : Hid (∀ j, -9223372036854775808 ≤ zat (rat rows i) j ∧ zat (rat rows i) j ≤ 9223372036854775807) := fun j => Fits.all hfi.1 j
      have HRC : Hid (∀ W, Below w.heap.size w W → W.cell? ⟨g, o + i, none⟩ = some (.slice ak (rat rows i).length ck) ∧ ∀ j, j < (rat rows i).length → ∃ b p, ak = some ⟨b, p, none⟩ ∧ W.cell? ⟨b, p + j, none⟩ = some (.int .i64 (zat (rat rows i) j))) := fun W hW =>
        ⟨(hW.cell (p := ⟨g, o + i, none⟩) hg0).trans hc, fun j hj => by
          obtain ⟨b, p, e1, e2, e3⟩ := hrl.row j hj
          exact ⟨b, p, e1, (hW.cell (p := ⟨b, p + j, none⟩) e2).trans e3⟩⟩
      have hrl2 : (rat rows i).length ≤ 17592186044000 := hfi.2
      have HRL := hid hge
      clear HC HB hc hrl hfi hge hg0
      obtain ⟨rl, hrl'⟩ : ∃ rl, rl = (rat rows i).length := ⟨_, rfl⟩
      rw [← hrl'] at HRC HRL hrl2
      clear hrl'
      go_wp2_with fail
      go_loopw [9, 11, 12, 13] (fun uv iv _ _ wq => ∃ k : Nat, k ≤ 4 ∧ iv = .int .i64 k ∧ Hid (RpI q i k a v rows uv w wq)) (fun _ iv _ _ _ => 4 - (intOf iv).toNat)
      case atStart => exact ⟨0, by omega, rfl, HI0⟩
      case round =>
        obtain ⟨k, hk, rfl, HI⟩ := hrel
        by_cases hlk : k < 4
        · have hlk2 : (k : Int) < 4 := by omega
          have hks : IntKind.i64.wrap ((k : Int) + 1) = (k : Int) + 1 := by rw [IntKind.wrap_i64]; omega
          obtain ⟨ia, hia⟩ : ∃ ia, ia = a + k := ⟨_, rfl⟩
          obtain ⟨iv, hiv⟩ : ∃ iv, iv = v + k := ⟨_, rfl⟩
          have e1 : (a : Int) + (k : Int) = (ia : Int) := by omega
          have e2 : (v : Int) + (k : Int) = (iv : Int) := by omega
          have w1' : IntKind.i64.wrap (ia : Int) = (ia : Int) := by rw [IntKind.wrap_i64]; omega
          have w2' : IntKind.i64.wrap (iv : Int) = (iv : Int) := by rw [IntKind.wrap_i64]; omega
          have l1 : (ia : Int) < (rl : Int) := by have := HRL.out; omega
          have l2 : (iv : Int) < (rl : Int) := by have := HRL.out; omega
          obtain ⟨hc, hel⟩ := HRC.out wr HI.out.bel
          obtain ⟨b, p, rfl, c0⟩ := hel ia (by omega)
          obtain ⟨b', p', hbp, c1⟩ := hel iv (by omega)
          injection hbp with hbp
          injection hbp with hb' hp'
          subst hb' hp'
          have HT4 := hid (rw4_take q (rat rows i) a v k hlk)
          rw [← hia, ← hiv] at HT4
          have b0 := HFI.out ia
          have b1 := HFI.out iv
          generalize zat (rat rows i) ia = z0 at *
          generalize zat (rat rows i) iv = z1 at *
          have HO0 : Hid (Calls Tryd.prog 44 #[.int .i64 q, .int .i64 z0] wr fun e w' => e = .returned (.int .i64 (z0 % (q : Int))) ∧ w' = wr) := rof_any q z0 wr h3 h4 b0.1 b0.2
          have HO1 : Hid (Calls Tryd.prog 44 #[.int .i64 q, .int .i64 z1] wr fun e w' => e = .returned (.int .i64 (z1 % (q : Int))) ∧ w' = wr) := rof_any q z1 wr h3 h4 b1.1 b1.2
          have HLL : Hid ((pr4 q (rows.take i) a v ++ ((rw4 (rat rows i) a v).take k).map (red q)).length ≤ 8796093021951) := by
            unfold Hid
            rw [List.length_append, List.length_map, List.length_take]
            have := HLN.out
            have := rw4_len (rat rows i) a v
            omega
          generalize z0 % (q : Int) = r0 at *
          generalize z1 % (q : Int) = r1 at *
          clear b0 b1 hel hia hiv
          go_wp2_with fail
          refine HO0.out.mono ?_
          rintro e w1 ⟨rfl, hw1⟩
          have hw2 := hw1.symm
          subst hw2
          go_wp2_with fail
          refine HO1.out.mono ?_
          rintro e w1 ⟨rfl, hw1⟩
          have hw2 := hw1.symm
          subst hw2
          clear HO0 HO1 hc c0 c1
          go_wp2_with (at_builtin; refine wpList_celB wr rfl _ _ rfl _ w.heap.size _ r0 r1 HI.out.cel rfl rfl (by have := HLL.out; omega) HI.out.bel.size ?_)
          intro v' w3 hc3 hb3 _
          have HI3 : Hid (RpI q i (k + 1) a v rows v' w w3) := ⟨by rw [HT4.out]; simpa [List.append_assoc] using hc3, HI.out.bel.trans hb3⟩
          clear hc3 hb3 HI
          go_wp2_with fail
          go_roundw
          case rel => exact ⟨k + 1, by omega, by go_num, HI3⟩
          case measure => simp [intOf]; omega
        · obtain rfl : k = 4 := by omega
          have HC4 : Hid (CelR w.heap.size wr u9 (pr4 q (rows.take (i + 1)) a v)) := by
            unfold Hid
            rw [HTK.out]
            have := HI.out.cel
            rw [show (rw4 (rat rows i) a v).take 4 = rw4 (rat rows i) a v from List.take_of_length_le (by rw [rw4_len]; omega)] at this
            exact this
          have HB4 := hid HI.out.bel
          clear HI
          go_wp2_with fail
          go_roundw
          case rel => exact ⟨i + 1, by omega, by go_num, HC4, HB4⟩
          case measure => simp [intOf]; omega
    · obtain rfl : i = n := by omega
      have hlt2 : ¬ (i : Int) < (i : Int) := by omega
      rw [HN.out, List.take_length] at HC
      have HE : Hid (∃ uv, Ending.returned u9 = .returned uv ∧ CelR w.heap.size wr uv (pr4 q rows a v) ∧ Below w.heap.size w wr) := ⟨u9, rfl, HC.out, HB.out⟩
      clear HC
      go_wp2_with fail
      go_ret
      exact HE.out

set_option maxRecDepth 100000 in
set_option maxHeartbeats 2000000 in
theorem ralike_any (q c : Nat) (ad : Option Addr) (rows : List (List Int)) (w : World) (h3 : 3 ≤ q) (h4 : q ≤ 2147483647) (hL : LstR w.heap.size w ad c rows) (hF : FitsR rows) (hn : rows.length ≤ 2000000000000) :
    Calls Tryd.prog 8 #[.int .i64 q, .slice ad rows.length c] w fun e w' => e = .returned (.bool (alkB q rows)) ∧ Below w.heap.size w w' := by
  have HL := hid hL
  have HF := hid hF
  have H1 := hid (fun (hg : allGe 20 rows) => rpairs_any q c 3 7 ad rows w h3 h4 hL hF hn hg (by omega) (by omega))
  have H2 := hid (fun (W : World) (hb : Below w.heap.size w W) (hg : allGe 20 rows) => rpairs_any q c 12 16 ad rows W h3 h4 ((hL.below hb).mono hb.size) hF hn hg (by omega) (by omega))
  have HLN : Hid (∀ a v, (pr4 q rows a v).length ≤ 8796093022208) := fun a v => by rw [pr4_len]; omega
  obtain ⟨n, hn'⟩ : ∃ n, n = rows.length := ⟨_, rfl⟩
  have HN := hid hn'
  rw [← hn'] at hn H1 H2 ⊢
  obtain ⟨r, hr⟩ : ∃ r, r = alkB q rows := ⟨_, rfl⟩
  rw [← hr]
  have HR := hid hr
  clear hL hF hn' hr
  go_enter Tryd.func8, Tryd.ntmps8
  go_wp2_with fail
  go_loop [5] (fun iv => ∃ i : Nat, i ≤ n ∧ iv = .int .i64 i ∧ Hid (∀ k, k < i → 20 ≤ (rat rows k).length)) (fun iv => n - (intOf iv).toNat)
  case atStart => exact ⟨0, Nat.zero_le _, rfl, fun k hk => by omega⟩
  case round =>
    obtain ⟨i, hi, rfl, HG⟩ := hrel
    by_cases hlt : i < n
    · have hlt2 : (i : Int) < (n : Int) := by omega
      have his : IntKind.i64.wrap ((i : Int) + 1) = (i : Int) + 1 := by rw [IntKind.wrap_i64]; omega
      obtain ⟨g, o, ak, ck, rfl, hg0, hc, _⟩ := HL.out.row i (by have := HN.out; omega)
      have hfi := (HF.out i (by have := HN.out; omega)).2
      by_cases h20 : 20 ≤ (rat rows i).length
      · have HG2 : Hid (∀ k, k < i + 1 → 20 ≤ (rat rows k).length) := fun k hk => by
          by_cases e : k = i
          · subst e; exact h20
          · exact HG.out k (by omega)
        have q' : ¬ ((rat rows i).length : Int) < 20 := by omega
        clear h20
        generalize (rat rows i).length = rl at *
        go_wp2_with fail
        go_round
        case rel => exact ⟨i + 1, by omega, by go_num, HG2⟩
        case measure => simp [intOf]; omega
      · have HFa : Hid (r = false) := by unfold Hid; rw [HR.out]; unfold alkB; rw [geB_no (fun h => h20 (h i (by have := HN.out; omega)))]; rfl
        have q' : ((rat rows i).length : Int) < 20 := by omega
        clear h20
        generalize (rat rows i).length = rl at *
        go_wp2_with fail
        go_ret
        exact ⟨by rw [HFa.out]; rfl, Below.refl _ _⟩
    · obtain rfl : i = n := by omega
      have hlt2 : ¬ (i : Int) < (i : Int) := by omega
      have hall : allGe 20 rows := fun k hk => HG.out k (by have := HN.out; omega)
      have H1' := hid (H1.out hall)
      have HRR : Hid (r = decide ((pr4 q rows 3 7).Perm (pr4 q rows 12 16))) := by unfold Hid; rw [HR.out]; unfold alkB; rw [geB_yes hall, Bool.true_and]
      have H2' := hid (fun W hb => H2.out W hb hall)
      clear H1 H2 hall HG HR
      go_wp2_with fail
      refine H1'.out.mono ?_
      rintro e w1 ⟨u1, rfl, c1, b1⟩
      have HC1 := hid c1
      have HB1 := hid b1
      have H3 := hid (H2'.out w1 b1)
      clear c1 b1 H1' H2'
      go_wp2_with fail
      refine H3.out.mono ?_
      rintro e w2 ⟨u2, rfl, c2, b2⟩
      have hC1 := CelR.belowB HC1.out b2 (Nat.le_refl _)
      obtain ⟨a1, d1, rfl, hl1⟩ := lstC_of_owns hC1
      obtain ⟨a2, d2, rfl, hl2⟩ := lstC_of_owns c2
      have HQ := hid (reach8_any d1 d2 a1 a2 _ _ w2 (HLN.out 3 7) hl1 (HLN.out 12 16) hl2)
      rw [← HRR.out] at HQ
      have HB2 := hid (HB1.out.trans (b2.mono HB1.out.size))
      generalize (pr4 q rows 3 7).length = n1 at *
      generalize (pr4 q rows 12 16).length = n2 at *
      clear c2 b2 hC1 hl1 hl2 H3 HC1 HLN
      go_wp2_with fail
      refine HQ.out.mono ?_
      rintro e w4 ⟨rfl, hb4⟩
      have HB4 := hid (HB2.out.trans (hb4.mono HB2.out.size))
      clear hb4 HQ
      go_wp2_with fail
      go_ret
      exact ⟨rfl, HB4.out⟩

end Go.Proofs.YtaibngnabhmabakDoor

namespace Go.Proofs.YtaibngnabhmabakDoor
open Go.RowKit

set_option maxHeartbeats 1000000 in
theorem pproduct_all (q b c : Nat) (ad : Option Addr) (rows : List (List Int)) (x y : Int) (w : World) (hpr : Num.Prime q) (h3 : 3 ≤ q) (h4 : q ≤ 2147483647) (hp : w.cell? ⟨b, 0, none⟩ = some (.int .i64 q)) (hL : LstR w.heap.size w ad c rows) (hF : FitsR rows) (hn : rows.length ≤ 2000000000000)
    (hx1 : -9223372036854775808 ≤ x) (hx2 : x ≤ 9223372036854775807) (hy1 : -9223372036854775808 ≤ y) (hy2 : y ≤ 9223372036854775807) :
    Calls Tryd.prog 9 #[.pointer (some ⟨b, 0, none⟩), .slice ad rows.length c, .int .i64 x, .int .i64 y] w (PdR q rows x y w) := by
  by_cases h0 : rows.length = 0
  · have HE : Hid (PdR q rows x y w (.returned (.tuple #[.slice none 0 0, .bool false])) w) := ⟨Below.refl _ _, .inr ⟨fun h => h.1 h0, rfl⟩⟩
    obtain ⟨R, hR⟩ : ∃ R, R = PdR q rows x y w := ⟨_, rfl⟩
    rw [← hR] at HE ⊢
    rw [h0]
    clear hR hL hF
    go_enter Tryd.func9, Tryd.ntmps9
    go_wp2_with fail
    exact HE.out
  · by_cases hg : allGe 20 rows
    · exact pproduct_any q b c ad rows x y w hpr h3 h4 hp hL hF hn hx1 hx2 hy1 hy2 h0 hg
    · have HE : Hid (PdR q rows x y w (.returned (.tuple #[.slice none 0 0, .bool false])) w) := ⟨Below.refl _ _, .inr ⟨fun h => hg h.2.1, rfl⟩⟩
      have HIP := hid (isPaired_any c ad rows w hL hF (by omega))
      rw [geB_no hg] at HIP
      obtain ⟨R, hR⟩ : ∃ R, R = PdR q rows x y w := ⟨_, rfl⟩
      rw [← hR] at HE ⊢
      generalize rows.length = n at *
      have hn0 : ((n : Int) == 0) = false := by rw [beq_eq_false_iff_ne]; omega
      clear hR hL hF hg h0
      go_enter Tryd.func9, Tryd.ntmps9
      go_wp2_with fail
      refine HIP.out.mono ?_
      rintro e w1 ⟨rfl, hw1⟩
      have hw2 := hw1.symm
      subst hw2
      go_wp2_with fail
      exact HE.out

theorem LstR.one {n0 : Nat} {w : World} {b o c i : Nat} {rows : List (List Int)} (h : LstR n0 w (some ⟨b, o, none⟩) c rows) (hi : i < rows.length) (c' : Nat) (hc : 1 ≤ c') : LstR n0 w (some ⟨b, o + i, none⟩) c' [rat rows i] := by
  refine ⟨fun k hk => ?_, by simpa using hc, fun e => by cases e⟩
  have hk0 : k = 0 := by simp at hk; omega
  subst hk0
  obtain ⟨b', o', ak, ck, e1, e2, e3, e4⟩ := h.row i hi
  injection e1 with e1
  injection e1 with e1 e5
  subst e1 e5
  exact ⟨b, o + i, ak, ck, rfl, e2, by simpa [rat] using e3, by simpa [rat] using e4⟩

set_option maxRecDepth 100000 in
set_option maxHeartbeats 4000000 in
theorem rproduct_any (q c : Nat) (ad : Option Addr) (rows : List (List Int)) (x y : Int) (w : World) (h3 : 3 ≤ q) (h4 : q ≤ 2147483647) (hL : LstR w.heap.size w ad c rows) (hF : FitsR rows) (hn : rows.length ≤ 2000000000000)
    (hx1 : -9223372036854775808 ≤ x) (hx2 : x ≤ 9223372036854775807) (hy1 : -9223372036854775808 ≤ y) (hy2 : y ≤ 9223372036854775807) :
    Calls Tryd.prog 10 #[.int .i64 q, .slice ad rows.length c, .int .i64 x, .int .i64 y] w (PdR q rows x y w) := by
  obtain ⟨R, hR⟩ : ∃ R, R = PdR q rows x y w := ⟨_, rfl⟩
  have HRR : Hid (∀ e w', PdR q rows x y w e w' → R e w') := fun e w' h => by rw [hR]; exact h
  rw [← hR]
  have HL := hid hL
  have HF := hid hF
  obtain ⟨n, hn'⟩ : ∃ n, n = rows.length := ⟨_, rfl⟩
  have HN := hid hn'
  have hroom := hL.room
  rw [← hn'] at hn hroom ⊢
  have HINT := hid Tryd.infoInt
  obtain ⟨i0, hi0, hz0, hz1, hz2⟩ := info_parts Tryd.infoInt
  clear hL hF hn' hR
  by_cases h0 : n = 0
  · have HE : Hid (PdR q rows x y w (.returned (.tuple #[.slice none 0 0, .bool false])) w) := ⟨Below.refl _ _, .inr ⟨fun h => h.1 (by rw [← HN.out]; exact h0), rfl⟩⟩
    subst h0
    go_enter Tryd.func10, Tryd.ntmps10
    go_wp2_with fail
    exact HRR.out _ _ HE.out
  · have hn0 : ((n : Int) == 0) = false := by rw [beq_eq_false_iff_ne]; omega
    go_enter Tryd.func10, Tryd.ntmps10
    go_wp2_with fail
    go_loop [10] (fun iv => ∃ i : Nat, i ≤ n ∧ iv = .int .i64 i ∧ Hid (∀ k, k < i → 20 ≤ (rat rows k).length)) (fun iv => n - (intOf iv).toNat)
    case atStart => exact ⟨0, Nat.zero_le _, rfl, fun k hk => by omega⟩
    case round =>
      obtain ⟨i, hi, rfl, HG⟩ := hrel
      by_cases hlt : i < n
      · have hlt2 : (i : Int) < (n : Int) := by omega
        have his : IntKind.i64.wrap ((i : Int) + 1) = (i : Int) + 1 := by rw [IntKind.wrap_i64]; omega
        obtain ⟨g, o, ak, ck, rfl, hg0, hc, _⟩ := HL.out.row i (by have := HN.out; omega)
        have hfi := (HF.out i (by have := HN.out; omega)).2
        by_cases h20 : 20 ≤ (rat rows i).length
        · have HG2 : Hid (∀ k, k < i + 1 → 20 ≤ (rat rows k).length) := fun k hk => by
            by_cases e : k = i
            · subst e; exact h20
            · exact HG.out k (by omega)
          have q' : ¬ ((rat rows i).length : Int) < 20 := by omega
          clear h20
          generalize (rat rows i).length = rl at *
          go_wp2_with fail
          go_round
          case rel => exact ⟨i + 1, by omega, by go_num, HG2⟩
          case measure => simp [intOf]; omega
        · have HE : Hid (PdR q rows x y w (.returned (.tuple #[.slice none 0 0, .bool false])) w) := ⟨Below.refl _ _, .inr ⟨fun h => h20 (h.2.1 i (by have := HN.out; omega)), rfl⟩⟩
          have q' : ((rat rows i).length : Int) < 20 := by omega
          clear h20
          generalize (rat rows i).length = rl at *
          go_wp2_with fail
          exact HRR.out _ _ HE.out
      · obtain rfl : i = n := by omega
        have hlt2 : ¬ (i : Int) < (i : Int) := by omega
        have HGA : Hid (allGe 20 rows) := fun k hk => HG.out k (by have := HN.out; omega)
        clear HG
        go_wp2_with fail
        go_loopw [11, 12, 13, 14, 15, 16] (fun ov zv iv _ _ _ wr => ∃ j : Nat, j ≤ i ∧ iv = .int .i64 j ∧ zv = .int .i64 (pcol q rows x y j) ∧ Hid (wr.ownsRow w.heap.size 3 1 ov (ls (pcol q rows x y) j).length ((ls (pcol q rows x y) j).map (Value.int .i64))) ∧ Hid (∀ k, k < j → pab q rows x y 3 7 k ≠ 0 ∧ pab q rows x y 12 16 k ≠ 0) ∧ Hid (Below w.heap.size w wr)) (fun _ _ iv _ _ _ _ => i - (intOf iv).toNat)
        case atStart => exact ⟨0, Nat.zero_le _, rfl, rfl, World.ownsRow_nil _ _ _ _, fun k hk => by omega, Below.refl _ _⟩
        case round =>
          obtain ⟨j, hj, rfl, rfl, HO, HZ, HB⟩ := hrel
          by_cases hlj : j < i
          · have hlj2 : (j : Int) < (i : Int) := by omega
            have hjs : IntKind.i64.wrap ((j : Int) + 1) = (j : Int) + 1 := by rw [IntKind.wrap_i64]; omega
            obtain ⟨g, o, _, _, rfl, _⟩ := HL.out.row j (by have := HN.out; omega)
            have hjc : (j : Int) + 1 ≤ (c : Int) := by omega
            have HLS : Hid (ls (pcol q rows x y) (j + 1) = ls (pcol q rows x y) j ++ [pcol q rows x y j]) := ls_succ _ _
            have HLL : Hid ((ls (pcol q rows x y) j).length ≤ 2000000000000) := by unfold Hid; rw [ls_len]; omega
            have hfit1 : FitsR [rat rows j] := fun k hk => by
              have hk0 : k = 0 := by simp at hk; omega
              subst hk0
              simpa [rat] using HF.out j (by have := HN.out; omega)
            have hge1 : allGe 20 [rat rows j] := fun k hk => by
              have hk0 : k = 0 := by simp at hk; omega
              subst hk0
              simpa [rat] using HGA.out j (by have := HN.out; omega)
            have HPA : Hid (∀ (W : World) (a v : Nat), Below w.heap.size w W → a + 4 ≤ 20 → v + 4 ≤ 20 → Calls Tryd.prog 24 #[.int .i64 q, .slice (some ⟨g, o + j, none⟩) 1 (c - j), .int .i64 (a : Int), .int .i64 (v : Int)] W fun e w' => ∃ uv, e = .returned uv ∧ CelR W.heap.size w' uv ((rw4 (rat rows j) a v).map (red q)) ∧ Below W.heap.size W w') := fun W a v hW h1 h2 => by
              have h := rpairs_any q (c - j) a v (some ⟨g, o + j, none⟩) [rat rows j] W h3 h4 (((HL.out.one (by have := HN.out; omega) (c - j) (by omega)).below hW).mono hW.size) hfit1 (by simp) hge1 h1 h2
              simpa [pr4] using h
            have hcb : ∀ a v, CelB ((rw4 (rat rows j) a v).map (red q)) := fun a v k hk => by
              rw [List.length_map, rw4_len] at hk
              have e : cat ((rw4 (rat rows j) a v).map (red q)) k = red q (cat (rw4 (rat rows j) a v) k) := by simp [cat, rw4_len, hk]
              rw [e]
              have e1 := emod_bounds (cat (rw4 (rat rows j) a v) k).1 q h3
              have e2 := emod_bounds (cat (rw4 (rat rows j) a v) k).2 q h3
              unfold red
              simp only
              omega
            have HMK : Hid (∀ (W : World) (aa : Option Addr) (cc a v : Nat), LstC W.heap.size W aa cc ((rw4 (rat rows j) a v).map (red q)) → Calls Tryd.prog 16 #[.int .i64 q, .slice aa ((rw4 (rat rows j) a v).map (red q)).length cc, .int .i64 x, .int .i64 y] W fun e w' => e = .returned (.int .i64 (pab q rows x y a v j)) ∧ Below W.heap.size W w') := fun W aa cc a v hW => by
              have h := rmake_any q cc aa _ x y W h3 h4 hx1 hx2 hy1 hy2 (by rw [List.length_map, rw4_len]; omega) hW (hcb a v)
              rw [show prd q x y ((rw4 (rat rows j) a v).map (red q)) ((rw4 (rat rows j) a v).map (red q)).length = pab q rows x y a v j from by
                rw [List.length_map, rw4_len, prd_red _ _ _ _ _ (by rw [rw4_len]; exact Nat.le_refl _)]; rfl] at h
              exact h
            have HLM : Hid (∀ a v, ((rw4 (rat rows j) a v).map (red q)).length = 4) := fun a v => by rw [List.length_map, rw4_len]
            have ba := pab_bd h3 rows x y 3 7 j
            have bb := pab_bd h3 rows x y 12 16 j
            have bz := pcol_bd h3 rows x y j
            have bm := emod_bounds (pab q rows x y 3 7 j * (invn q (pab q rows x y 12 16 j) : Int)) q h3
            have HDV : Hid (∀ W, Calls Tryd.prog 29 #[.int .i64 q, .int .i64 (pab q rows x y 3 7 j), .int .i64 (pab q rows x y 12 16 j)] W fun e w' => e = .returned (.int .i64 (pab q rows x y 3 7 j * (invn q (pab q rows x y 12 16 j) : Int) % (q : Int))) ∧ w' = W) := fun W => rdiv_any q _ _ W h3 h4 (by omega) (by omega) (by omega) (by omega)
            have HML : Hid (∀ W, Calls Tryd.prog 30 #[.int .i64 q, .int .i64 (pcol q rows x y j), .int .i64 (pab q rows x y 3 7 j * (invn q (pab q rows x y 12 16 j) : Int) % (q : Int))] W fun e w' => e = .returned (.int .i64 (pcol q rows x y (j + 1))) ∧ w' = W) := fun W => by
              rw [pcol]
              exact rmul_any q _ _ W h3 h4 (by omega) (by omega) (by omega) (by omega)
            have HZ2 : Hid (pab q rows x y 3 7 j ≠ 0 → pab q rows x y 12 16 j ≠ 0 → ∀ k, k < j + 1 → pab q rows x y 3 7 k ≠ 0 ∧ pab q rows x y 12 16 k ≠ 0) := fun h1 h2 k hk => by
              by_cases e : k = j
              · subst e; exact ⟨h1, h2⟩
              · exact HZ.out k (by omega)
            have HNO : Hid (pab q rows x y 3 7 j = 0 ∨ pab q rows x y 12 16 j = 0 → ¬ noz q rows x y) := fun h hz => by
              have := hz.2.2 j (by have := HN.out; omega)
              rcases h with h | h
              · exact this.1 h
              · exact this.2 h
            obtain ⟨pz, hpz⟩ : ∃ pz, pz = pcol q rows x y (j + 1) := ⟨_, rfl⟩
            have HPZ := hid hpz
            rw [← hpz] at HML
            have HP1 := hid (fun W hW => HPA.out W 3 7 hW (by omega) (by omega))
            have HP2 := hid (fun W hW => HPA.out W 12 16 hW (by omega) (by omega))
            have HM1 := hid (fun W aa cc h => HMK.out W aa cc 3 7 h)
            have HM2 := hid (fun W aa cc h => HMK.out W aa cc 12 16 h)
            generalize pab q rows x y 3 7 j * (invn q (pab q rows x y 12 16 j) : Int) % (q : Int) = dv at *
            generalize pab q rows x y 3 7 j = va at *
            generalize pab q rows x y 12 16 j = vb at *
            generalize pcol q rows x y j = vz at *
            rw [(HLM.out 3 7)] at HM1
            rw [(HLM.out 12 16)] at HM2
            have hown := HO.out
            have hbel := HB.out
            generalize ls (pcol q rows x y) j = lk at *
            clear hcb hfit1 hge1 HPA HMK ba bb bz bm HZ hpz HO HB
            go_wp2_with (at_builtin; refine wpList_append_own _ rfl _ _ 29 rfl w.heap.size 3 i0 (.int .i64 0) 1 8 Tryd.underlying29 hi0 hz0 hz1 hz2 rfl (by decide) _ _ _ rfl (hown.alloc _) ⟨wr.heap.size, 0, none⟩ 1 1 [.int .i64 vz] rfl rfl ?c1 ?c2 ?c3 ?c4 ?c5 ?_)
            case c1 =>
              intro j u hj
              match j, hj with
              | 0, hj => simp at hj; subst hj; simp [Addr.add]
            case c2 => intro u hu; simp at hu; subst hu; rfl
            case c3 => have := HLL.out; unfold maxLen; omega
            case c4 => have := HLL.out; omega
            case c5 => have := hbel.size; simp; omega
            intro v' w2 hown2 hgrow _
            have HO2 := hid (owns_succ hown2)
            have HB2 : Hid (Below w.heap.size w w2) := (hbel.alloc hbel.size _).grown hgrow (by have := hbel.size; simp; omega) (fun k hk => (hown.lt k hk).1)
            clear hown2 hgrow hown hbel
            go_wp2_with fail
            refine (HP1.out w2 HB2.out).mono ?_
            rintro e w3 ⟨u1, rfl, hc1, hb3⟩
            obtain ⟨a1, d1, rfl, hl1⟩ := lstC_of_owns hc1
            rw [HLM.out 3 7]
            have HQ1 := hid (HM1.out w3 a1 d1 hl1)
            have HB23 := hid hb3
            clear hc1 hb3 hl1 HP1 HM1
            go_wp2_with fail
            refine HQ1.out.mono ?_
            rintro e w4 ⟨rfl, hb4⟩
            have hb24 := HB23.out.trans (hb4.mono HB23.out.size)
            have HB24 := hid hb24
            have HQ2 := hid (HP2.out w4 (HB2.out.trans (hb24.mono HB2.out.size)))
            clear hb4 hb24 HQ1 HB23 HP2
            go_wp2_with fail
            refine HQ2.out.mono ?_
            rintro e w5 ⟨u2, rfl, hc2, hb5⟩
            obtain ⟨a2, d2, rfl, hl2⟩ := lstC_of_owns hc2
            rw [HLM.out 12 16]
            have HQ3 := hid (HM2.out w5 a2 d2 hl2)
            have HB25 := hid (HB24.out.trans (hb5.mono HB24.out.size))
            clear hc2 hb5 hl2 HQ2 HB24 HM2
            go_wp2_with fail
            refine HQ3.out.mono ?_
            rintro e w6 ⟨rfl, hb6⟩
            have hb26 := HB25.out.trans (hb6.mono HB25.out.size)
            have HB6 := hid (HB2.out.trans (hb26.mono HB2.out.size))
            have HO6 : Hid (w6.ownsRow w.heap.size 3 1 v' (lk ++ [vz]).length ((lk ++ [vz]).map (Value.int .i64))) := World.ownsRow.kept (row := none) HO2.out (gb_of_below hb26) (by cases v'.ownBlock <;> simp)
            clear hb6 hb26 HQ3 HB25 HO2 HB2
            by_cases hza : va = 0
            · have HE : Hid (PdR q rows x y w (.returned (.tuple #[.slice none 0 0, .bool false])) w6) := ⟨HB6.out, .inr ⟨HNO.out (.inl hza), rfl⟩⟩
              have qa : (va == 0) = true := by simp [hza]
              clear hza HNO HZ2
              go_wp2_with fail
              exact HRR.out _ _ HE.out
            · have qa : (va == 0) = false := by simp [hza]
              by_cases hzb : vb = 0
              · have HE : Hid (PdR q rows x y w (.returned (.tuple #[.slice none 0 0, .bool false])) w6) := ⟨HB6.out, .inr ⟨HNO.out (.inr hzb), rfl⟩⟩
                have qb : (vb == 0) = true := by simp [hzb]
                clear hza hzb HNO HZ2
                go_wp2_with fail
                exact HRR.out _ _ HE.out
              · have qb : (vb == 0) = false := by simp [hzb]
                have HZ3 := hid (HZ2.out hza hzb)
                clear hza hzb HNO HZ2
                go_wp2_with fail
                refine (HDV.out _).mono ?_
                rintro e w7 ⟨rfl, hw⟩
                have hw7 := hw.symm
                subst hw7
                go_wp2_with fail
                refine (HML.out _).mono ?_
                rintro e w7 ⟨rfl, hw⟩
                have hw7 := hw.symm
                subst hw7
                go_wp2_with fail
                go_roundw
                case rel => exact ⟨j + 1, by omega, by go_num, by rw [HPZ.out], by unfold Hid; rw [HLS.out]; exact HO6.out, HZ3, HB6⟩
                case measure => simp [intOf]; omega
          · obtain rfl : j = i := by omega
            have hlj2 : ¬ (j : Int) < (j : Int) := by omega
            obtain ⟨a1, c1, rfl, hl1⟩ := lst_of_owns HO.out
            have HE : Hid (PdR q rows x y w (.returned (.tuple #[.slice a1 (ls (pcol q rows x y) j).length c1, .bool true])) wr) := by
              refine ⟨HB.out, .inl ⟨⟨by rw [← HN.out]; exact h0, HGA.out, fun k hk => HZ.out k (by have := HN.out; omega)⟩, a1, c1, by rw [ls_len, HN.out], ?_⟩⟩
              rw [← HN.out]
              exact hl1
            clear hl1 HO HZ
            generalize (ls (pcol q rows x y) j).length = ll at *
            go_wp2_with fail
            exact HRR.out _ _ HE.out

end Go.Proofs.YtaibngnabhmabakDoor
