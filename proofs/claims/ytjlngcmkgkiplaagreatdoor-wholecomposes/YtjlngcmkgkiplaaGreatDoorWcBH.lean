
import Derived.Test.YtjlngcmkgkiplaaGreatDoorWcAV
import Derived.Test.YtjlngcmkgkiplaaGreatDoorWcAZ
import Derived.Test.YtjlngcmkgkiplaaGreatDoorWcAQ
import Derived.Test.YtjlngcmkgkiplaaGreatDoorDoms
import Derived.Test.YtjlngcmkgkiplaaGreatDoorFld
import Derived.Test.YtjlngcmkgkiplaaGreatDoorWcBG
import Derived.Deep.QuietTactic
set_option maxRecDepth 1000000
set_option maxHeartbeats 8000000
namespace Go.Proofs.YtjlngcmkgkiplaaGreatDoor
open Go.RowKit Go.Maps
theorem wdB_app (m : Nat) (l : List (List Int)) (r : List Int) : wdB m (l ++ [r]) = (wdB m l && (r.length == m)) := by simp [wdB]
def shB (b : Bool) (m : Nat) (rows : List (List Int)) (j : Nat) : Bool := b && wdB m (rows.take j)
theorem shB_zero (b : Bool) (m : Nat) (rows : List (List Int)) : shB b m rows 0 = b := by simp [shB, wdB]
theorem shB_succ (b : Bool) {m : Nat} {rows : List (List Int)} {j : Nat} (h : j < rows.length) : shB b m rows (j + 1) = (shB b m rows j && ((rat rows j).length == m)) := by
 unfold shB
 rw [take_rat h, wdB_app, Bool.and_assoc]
theorem shB_end (b : Bool) (m : Nat) (rows : List (List Int)) : shB b m rows rows.length = (b && wdB m rows) := by unfold shB; rw [List.take_length]
theorem wshape_any (q nL cL cR cz nz : Nat) (size : Int) (aL aR az : Option Addr) (rows : List (List Int)) (w : World) (h3 : 3 <= q) (h4 : q <= 2147483647) (hl : nL <= 281474976710656) (hrl : rows.length <= 281474976710656) (hrn : ∀ k, k < rows.length -> (rat rows k).length <= 281474976710656) (hL : LstR w.heap.size w aR cR rows) :
  Calls Tryz.prog 7 #[.int .i64 q, .agg #[.int .i64 size, .slice aL nL cL], .slice aR rows.length cR, .slice az nz cz] w fun e w' => e = .returned (.bool (fitQ q nL rows.length && wdB (20 + nL) rows && (nz == rows.length))) /\ Below w.heap.size w w' := by
 have HFT : Hid (∀ W, Calls Tryz.prog 26 #[.int .i64 q, .agg #[.int .i64 size, .slice aL nL cL], .int .i64 (rows.length : Int)] W fun e w' => e = .returned (.bool (fitQ q nL rows.length)) /\ Below W.heap.size W w') := fun W => rfits_any q nL cL size (rows.length : Int) aL W h3 h4 hl
 obtain ⟨W0, hW0⟩ := exE (w.alloc (.cells #[.int .i64 size, .slice aL nL cL] 24))
 have hb0 := blA hW0
 have hs0 := haA hW0
 have k0 := clA 0 hs0 rfl
 have k1 := clA 1 hs0 rfl
 have hlt : w.heap.size < W0.heap.size := by rw [hW0]; simp
 have HB0 := hid hb0
 have HK1 := hid k1
 have HLT := hid hlt
 obtain ⟨B, hB⟩ := exE (shB (fitQ q nL rows.length) (20 + nL) rows)
 have HBZ : Hid (B 0 = fitQ q nL rows.length) := by unfold Hid; rw [hB]; exact shB_zero _ _ _
 have HBS : Hid (∀ j, j < rows.length -> B (j + 1) = (B j && ((rat rows j).length == 20 + nL))) := fun j hj => by rw [hB]; exact shB_succ _ hj
 have HBE : Hid ((fitQ q nL rows.length && wdB (20 + nL) rows) = B rows.length) := by unfold Hid; rw [hB]; exact (shB_end _ _ _).symm
 have HRW : Hid (∀ W, Below w.heap.size w W -> ∀ j, j < rows.length -> ∃ bw ow ak ck, aR = some ⟨bw, ow, none⟩ /\ W.cell? ⟨bw, ow + j, none⟩ = some (.slice ak (rat rows j).length ck)) := fun W hW j hj => by
  obtain ⟨b, o, ak, ck, e1, hb, hc, _⟩ := hL.row j hj
  exact ⟨b, o, ak, ck, e1, (hW.cell (p := ⟨b, o + j, none⟩) hb).trans hc⟩
 have HRN := hid hrn
 rw [HBE.out]
 generalize fitQ q nL rows.length = fq at *
 have h20 : IntKind.i64.wrap ((20 : Int) + (nL : Int)) = ((20 + nL : Nat) : Int) := by rw [IntKind.wrap_i64]; omega
 have hnn : ((nz : Int) == (rows.length : Int)) = (nz == rows.length) := by
  by_cases e : nz = rows.length
  ·rw [e]; simp
  ·have e' : ¬ (nz : Int) = (rows.length : Int) := by omega
   rw [beq_eq_false_iff_ne.2 e, beq_eq_false_iff_ne.2 e']
 obtain ⟨m, hm⟩ := exE (rows.length)
 obtain ⟨m0, hm0⟩ := exE (20 + nL)
 rw [<- hm0] at h20
 simp only [<- hm, <- hm0] at HFT HBS HRW HRN hrl hnn ⊢
 clear hb0 hs0 hlt hB hL hm hm0 HBE hrn
 go_enter Tryz.func7, Tryz.ntmps7
 rw [hW0] at k0 k1
 go_wp2_with fail
 rw [<- hW0]
 clear k0 k1 hW0
 refine (HFT.out _).mono ?_
 rintro e w1 ⟨rfl, hb1⟩
 have HB1 : Hid (Below w.heap.size w w1) := HB0.out.trans (hb1.mono HB0.out.size)
 have HC1 := hid ((hb1.cell (p := ⟨w.heap.size, 1, none⟩) HLT.out).trans HK1.out)
 have HL1 := hid (Nat.lt_of_lt_of_le HLT.out hb1.size)
 clear hb1 HK1 HB0 HLT
 go_wp2_with fail
 go_loopw [9, 10] (fun bv iv wr => ∃ j : Nat, j <= m /\ iv = .int .i64 j /\ bv = .bool (B j) /\ Hid (Below w.heap.size w wr) /\ Hid (wr.cell? ⟨w.heap.size, 1, none⟩ = some (.slice aL nL cL))) (fun _ iv _ => m - (intOf iv).toNat)
 case atStart => exact ⟨0, Nat.zero_le _, rfl, by rw [HBZ.out], HB1, HC1⟩
 case round =>
  obtain ⟨j, hj, rfl, rfl, HB, HC⟩ := hrel
  by_cases hlt : j < m
  ·have hlt2 : (j : Int) < (m : Int) := by omega
   have hjs : IntKind.i64.wrap ((j : Int) + 1) = (j : Int) + 1 := by rw [IntKind.wrap_i64]; omega
   have HSJ := hid (HBS.out j hlt)
   obtain ⟨bw, ow, ak, ck, rfl, hcw⟩ := HRW.out wr HB.out j hlt
   have kc := HC.out
   generalize (rat rows j).length = lj at *
   obtain ⟨bj, hbj⟩ := exE (B j)
   rw [<- hbj] at HSJ ⊢
   clear hbj
   cases bj with
   | false =>
    have HK : Hid (B (j + 1) = false) := by unfold Hid; rw [HSJ.out]; rfl
    clear HSJ
    go_wp2_with fail
    go_quiet (fail)
    have HC2 : Hid ((wr.drewN nq).cell? ⟨w.heap.size, 1, none⟩ = some (.slice aL nL cL)) := by unfold Hid; exact kc
    go_wp2_with fail
    go_roundw
    case rel => exact ⟨j + 1, by omega, by go_num, by rw [HK.out], below_drewN HB.out _, HC2⟩
    case measure => simp [intOf]; omega
   | true =>
    by_cases he : lj = m0
    ·have HK : Hid (B (j + 1) = true) := by unfold Hid; rw [HSJ.out, he]; simp
     have qn : ((lj : Int) == (m0 : Int)) = true := by rw [he]; simp
     clear HSJ he
     go_wp2_with fail
     go_quiet (fail)
     have HC2 : Hid ((wr.drewN nq).cell? ⟨w.heap.size, 1, none⟩ = some (.slice aL nL cL)) := by unfold Hid; exact kc
     go_wp2_with fail
     go_roundw
     case rel => exact ⟨j + 1, by omega, by go_num, by rw [HK.out], below_drewN HB.out _, HC2⟩
     case measure => simp [intOf]; omega
    ·have HK : Hid (B (j + 1) = false) := by unfold Hid; rw [HSJ.out]; simp [he]
     have qn : ((lj : Int) == (m0 : Int)) = false := by rw [beq_eq_false_iff_ne]; omega
     clear HSJ he
     go_wp2_with fail
     go_quiet (fail)
     have HC2 : Hid ((wr.drewN nq).cell? ⟨w.heap.size, 1, none⟩ = some (.slice aL nL cL)) := by unfold Hid; exact kc
     go_wp2_with fail
     go_roundw
     case rel => exact ⟨j + 1, by omega, by go_num, by rw [HK.out], below_drewN HB.out _, HC2⟩
     case measure => simp [intOf]; omega
  ·obtain rfl : j = m := by omega
   have hlt2 : ¬ (j : Int) < (j : Int) := by omega
   obtain ⟨bj, hbj⟩ := exE (B j)
   have HBJ := hid hbj
   rw [<- hbj]
   clear hbj
   cases bj with
   | false =>
    go_wp2_with fail
    go_ret
    exact ⟨by rw [<- HBJ.out]; rfl, HB.out⟩
   | true =>
    go_wp2_with fail
    go_ret
    exact ⟨by rw [<- HBJ.out]; rfl, HB.out⟩
theorem RTA.put {w : World} {t q n g rH rD : Nat} {size out : Int} {aL : Option Addr} {nL cL : Nat} {x y a gg : Int} (h : RTA w t q n g rH rD size out aL nL cL x y a gg) (j : Nat) (v : Value) : (w.setCell ⟨t, j, none⟩ v).heap[t]? = some (.cells ((rtc q n g rH rD size out aL nL cL x y a gg).setIfInBounds j v) 41 (0, 0)) := by
 unfold RTA at h
 show (w.heap.modify t _)[t]? = _
 rw [Array.getElem?_modify, if_pos rfl, h]
 rfl
theorem wcomposes_yes (q : Nat) (cL cR cz : Nat) (size out x y a : Int) (aL aR az : Option Addr) (L : List InsZ) (rows : List (List Int)) (z : List Int) (w : World) (hpr : Num.Prime q) (h3 : 3 <= q) (h4 : q <= 2147483647) (hok : CpOk q L.length rows z)
  (hI : LstI w.heap.size w aL cL L) (hIB : InsB L) (hsz : I64 size) (hout : I64 out) (hF : FitsR rows) (hFz : Fits z) (hL : LstR w.heap.size w aR cR rows) (hLz : RowB w.heap.size w az z) (hx : I64 x) (hy : I64 y) (ha : I64 a) :
  Calls Tryz.prog 3 #[.int .i64 q, .agg #[.int .i64 size, .slice aL L.length cL], .int .i64 out, .slice aR rows.length cR, .slice az z.length cz, .int .i64 x, .int .i64 y, .int .i64 a] w fun e w' => e = .returned (.bool true) /\ Below w.heap.size w w' := by
 obtain ⟨hfit, hzl, hwd⟩ := hok
 have hfit' := hfit
 obtain ⟨k, hk2, hk9, hrk, hd8, hlt8, hl1, hl, hlq⟩ := hfit'
 have hrl : rows.length = 2 ^ k := by omega
 have a4 : 2 ^ 2 <= 2 ^ k := Nat.pow_le_pow_right (by decide) hk2
 have b9 : 2 ^ k <= 2 ^ 9 := Nat.pow_le_pow_right (by decide) hk9
 have e8 : 2 ^ (k + 3) = 8 * 2 ^ k := by rw [Nat.pow_add]; omega
 have hd : (q - 1) % 2 ^ k = 0 := Nat.mod_eq_zero_of_dvd (Nat.dvd_trans (Nat.dvd_mul_left _ 8) (Nat.dvd_of_mod_eq_zero hd8))
 have hw20 : ∀ j, j < rows.length -> (rat rows j).length = 20 + L.length := fun j hj => wdB_at hwd hj
 have HN := hid (fun w1 => field_yes q w1 h3 h4 hpr)
 have HCP : Hid (∀ W, Below w.heap.size w W -> Calls Tryz.prog 5 #[.slice aR (2 ^ k) cR] W fun e w' => ∃ a2 c2, e = .returned (.slice a2 (2 ^ k) c2) /\ LstR w'.heap.size w' a2 c2 rows /\ Below W.heap.size W w') := fun W hW => by
  rw [<- hrl]
  refine (copied_any cR aR rows W (by omega) (fun j hj => by rw [hw20 j hj]; omega) ((hL.below hW).mono hW.size)).mono ?_
  rintro e w' ⟨v, rfl, ho, hb⟩
  obtain ⟨a2, c2, rfl, hl2⟩ := ho.lst
  exact ⟨a2, c2, rfl, hl2, hb⟩
 have HPC : Hid (∀ (b : Nat) (a2 : Option Addr) (c2 : Nat) W, Below w.heap.size w W -> W.cell? ⟨b, 0, none⟩ = some (.int .i64 q) -> LstR W.heap.size W a2 c2 rows -> Calls Tryz.prog 6 #[.pointer (some ⟨b, 0, none⟩), .agg #[.int .i64 size, .slice aL L.length cL], .int .i64 out, .slice a2 (2 ^ k) c2, .slice az (2 ^ k) cz, .int .i64 x, .int .i64 y, .int .i64 a] W fun e w' =>
   ∃ X g rH rD, Num.GenIs q g /\ RootIs q ((2 ^ k : Nat) : Int) rH /\ RootIs q ((2 ^ (k + 3) : Nat) : Int) rD /\ e = .returned (.tuple #[.slice (some ⟨X, 0, none⟩) (8 * 2 ^ k) (8 * 2 ^ k), .nilIface]) /\ w'.rowIs X 3 (8 * 2 ^ k) (fun i => .int .i64 (cpv q (2 ^ k) g rH rD L size out rows z x y a i)) /\ W.heap.size <= X /\ Below W.heap.size W w') := fun b a2 c2 W hW hc h2 =>
  pcompose_yes q b k cL c2 cz size out x y a aL a2 az L rows z W hpr h3 h4 hc (by rw [<- hrk]; exact hfit) hk2 hk9 hd (by rw [e8]; exact hd8) hlt8 hl hl1 hrl (by omega) hwd ((hI.below hW).mono hW.size) hIB hsz hout hF hFz h2 (RowB.mono hW.size (RowB.below hW hLz)) hx hy ha
 have HSH : Hid (∀ W, Below w.heap.size w W -> Calls Tryz.prog 7 #[.int .i64 q, .agg #[.int .i64 size, .slice aL L.length cL], .slice aR (2 ^ k) cR, .slice az (2 ^ k) cz] W fun e w' => e = .returned (.bool true) /\ Below W.heap.size W w') := fun W hW => by
  have h0 := wshape_any q L.length cL cR cz z.length size aL aR az rows W h3 h4 (by omega) (by omega) (fun j hj => by rw [hw20 j hj]; omega) ((hL.below hW).mono hW.size)
  rw [fitQ_yes (by rw [hrk] at hfit ⊢; exact hfit), hwd, hzl, hrl] at h0
  simpa using h0
 have HNW : Hid (∀ W, Calls Tryz.prog 8 #[.int .i64 q, .agg #[.int .i64 size, .slice aL L.length cL], .int .i64 out, .int .i64 ((2 ^ k : Nat) : Int)] W fun e w' =>
   ∃ t g rH rD, e = .returned (.pointer (some ⟨t, 0, none⟩)) /\ RTA w' t q (2 ^ k) g rH rD size out aL L.length cL 0 0 0 0 /\ W.heap.size <= t /\ Num.GenIs q g /\ RootIs q ((2 ^ k : Nat) : Int) rH /\ RootIs q ((8 * 2 ^ k : Nat) : Int) rD /\ Below W.heap.size W w') := fun W => rtnew_any q (2 ^ k) L.length cL size out aL W hpr h3 h4 (by omega)
 have HRT : Hid (∀ r : Nat, RootIs q ((2 ^ k : Nat) : Int) r -> r < q) := fun r h => (root_ord2 hpr h3 hd h).2
 have HRT8 : Hid (∀ r : Nat, RootIs q ((8 * 2 ^ k : Nat) : Int) r -> r < q) := fun r h => (root_ord2 (k := k + 3) hpr h3 (by rw [e8]; exact hd8) (by rw [e8]; exact h)).2
 have HGN : Hid (∀ g, Num.GenIs q g -> g < q) := fun g h => by rcases h with h | h <;> omega
 have HWD : Hid (∀ (t g rH rD : Nat) W, Below w.heap.size w W -> g < q -> rH < q -> rD < q -> RTA W t q (2 ^ k) g rH rD size out aL L.length cL x y a 0 -> Calls Tryz.prog 9 #[.pointer (some ⟨t, 0, none⟩), .slice aR (2 ^ k) cR] W fun e w' => ∃ (G : Nat),
   e = .returned (.slice (some ⟨G, 0, none⟩) (8 * 2 ^ k) (8 * 2 ^ k)) /\ W.heap.size <= G /\ LstR w'.heap.size w' (some ⟨G, 0, none⟩) (8 * 2 ^ k) (spT (cvz q (2 ^ k) rH rD g rows) (8 * 2 ^ k) (20 + L.length)) /\ Below W.heap.size W w') := fun t g rH rD W hW h1 h2 h5 hT =>
  rwide_any t q (2 ^ k) g rH rD L.length cL cR (20 + L.length) size out x y a 0 aL aR rows W hpr h3 h4 hT (by omega) (by omega) h2 h5 h1 hrl (fun j hj => hw20 j (by omega)) (by omega) hF ((hL.below hW).mono hW.size)
 have HON : Hid (∀ W, Below w.heap.size w W -> Calls Tryz.prog 10 #[.slice az (2 ^ k) cz] W fun e w' => ∃ a3 c3, e = .returned (.slice a3 (2 ^ k) c3) /\ LstR w'.heap.size w' a3 c3 (onez z) /\ Below W.heap.size W w') := fun W hW => by
  have h0 := rone_any cz az z W (by omega) (RowB.mono hW.size (RowB.below hW hLz))
  rw [hzl, hrl] at h0
  refine h0.mono ?_
  rintro e w' ⟨v, rfl, ho, hb⟩
  obtain ⟨a3, c3, rfl, hl3⟩ := ho.lst
  exact ⟨a3, c3, by rw [onez_len, hzl, hrl], hl3, hb⟩
 have hFo : FitsR (onez z) := fun j hj => by
  rw [onez_len] at hj
  rw [onez_rat hj]
  refine ⟨fun i hi => ?_, by simp⟩
  have : i = 0 := by simpa using hi
  subst this
  exact hFz j hj
 have HCL : Hid (∀ (t g rH rD c3 : Nat) (a3 : Option Addr) W, g < q -> rH < q -> rD < q -> RTA W t q (2 ^ k) g rH rD size out aL L.length cL x y a 0 -> LstR W.heap.size W a3 c3 (onez z) -> Calls Tryz.prog 11 #[.pointer (some ⟨t, 0, none⟩), .slice a3 (2 ^ k) c3, .int .i64 ((0 : Nat) : Int)] W fun e w' => ∃ (G N : Nat) (F : Nat -> Value),
   e = .returned (.slice (some ⟨G, 0, none⟩) (8 * 2 ^ k) N) /\ W.heap.size <= G /\ w'.rowIs G 3 N F /\ 8 * 2 ^ k <= N /\ (∀ i, i < 8 * 2 ^ k -> F i = .int .i64 (cvz q (2 ^ k) rH rD g (onez z) i 0)) /\ Below W.heap.size W w') := fun t g rH rD c3 a3 W h1 h2 h5 hT hl3 =>
  rcolumn_any t q (2 ^ k) g rH rD L.length cL c3 0 1 size out x y a 0 aL a3 (onez z) W hpr h3 h4 hT (by omega) (by omega) h2 h5 h1 (by rw [onez_len, hzl, hrl]) (fun j hj => by rw [onez_rat (by omega)]; rfl) (by omega) hFo hl3
 have HCM : Hid (∀ (t g rH rD G Gz Nz : Nat) (F : Nat -> Value) W, Below w.heap.size w W -> g < q -> rH < q -> rD < q -> RTA W t q (2 ^ k) g rH rD size out aL L.length cL x y a 0 -> LstR W.heap.size W (some ⟨G, 0, none⟩) (8 * 2 ^ k) (spT (cvz q (2 ^ k) rH rD g rows) (8 * 2 ^ k) (20 + L.length)) -> W.rowIs Gz 3 Nz F -> 8 * 2 ^ k <= Nz -> (∀ i, i < 8 * 2 ^ k -> F i = .int .i64 (cvz q (2 ^ k) rH rD g (onez z) i 0)) ->
   Calls Tryz.prog 12 #[.pointer (some ⟨t, 0, none⟩), .slice (some ⟨G, 0, none⟩) (8 * 2 ^ k) (8 * 2 ^ k), .slice (some ⟨Gz, 0, none⟩) (8 * 2 ^ k) Nz] W fun e w' => ∃ a5 c5, e = .returned (.slice a5 (8 * 2 ^ k) c5) /\ RowB w'.heap.size w' a5 (ls (cpv q (2 ^ k) g rH rD L size out rows z x y a) (8 * 2 ^ k)) /\ Below W.heap.size W w') := fun t g rH rD G Gz Nz F W hW h1 h2 h5 hT hG hZ hN hFi => by
  refine (rcompose_any t q (2 ^ k) g rH rD cL G Gz Nz size out x y a 0 aL L rows z F W hpr h3 h4 hT hl hl1 (by omega) (by omega) h2 h5 h1 hIB hsz hout hx hy ha ((hI.below hW).mono hW.size) hG hZ hN hFi).mono ?_
  rintro e w' ⟨v, rfl, ho, hb⟩
  obtain ⟨a5, c5, rfl, hr5⟩ := rowB_of_owns ho
  exact ⟨a5, c5, by rw [ls_len], hr5, hb⟩
 have HIN : Hid (∀ (g rH rD X c5 : Nat) (a5 : Option Addr) W, W.rowIs X 3 (8 * 2 ^ k) (fun i => .int .i64 (cpv q (2 ^ k) g rH rD L size out rows z x y a i)) -> RowB W.heap.size W a5 (ls (cpv q (2 ^ k) g rH rD L size out rows z x y a) (8 * 2 ^ k)) -> Calls Tryz.prog 14 #[.slice (some ⟨X, 0, none⟩) (8 * 2 ^ k) (8 * 2 ^ k), .slice a5 (8 * 2 ^ k) c5] W fun e w' => e = .returned (.bool true) /\ ∃ n, w' = W.drewN n) := fun g rH rD X c5 a5 W hX h5 => by
  obtain ⟨cc, hcc, hcs, hcF⟩ := hX
  have hr : RowB W.heap.size W (some ⟨X, 0, none⟩) (ls (cpv q (2 ^ k) g rH rD L size out rows z x y a) (8 * 2 ^ k)) := fun i hi => by
   rw [ls_len] at hi
   refine ⟨X, 0, rfl, (Array.getElem?_eq_some_iff.1 hcc).1, ?_⟩
   rw [ls_at _ _ _ hi, Nat.zero_add]
   have := hcF i hi
   simp [World.cell?, hcc, this]
  have h0 := ints_any _ _ _ _ W (rowZ_of_B (8 * 2 ^ k) hr) (rowZ_of_B c5 h5) (by rw [ls_len]; omega) (by rw [ls_len]; omega)
  rw [ls_len] at h0
  refine h0.mono ?_
  rintro e w' ⟨rfl, hn⟩
  exact ⟨by simp, hn⟩
 have HRS : Hid (∀ (a2 : Option Addr) (c2 : Nat) W, Below w.heap.size w W -> LstR W.heap.size W a2 c2 rows -> Calls Tryz.prog 15 #[.slice a2 (2 ^ k) c2, .slice aR (2 ^ k) cR] W fun e w' => e = .returned (.bool true) /\ ∃ n, w' = W.drewN n) := fun a2 c2 W hW h2 => by
  have h0 := srows_any c2 cR a2 aR rows rows W.heap.size W.heap.size W (by omega) (by omega) (fun j hj => by rw [hw20 j hj]; omega) (fun j hj => by rw [hw20 j hj]; omega) h2 ((hL.below hW).mono hW.size)
  rw [hrl] at h0
  simpa using h0
 rw [hrl, hzl, hrl]
 have HEN := hid (fun W => error_nil 0 W)
 have hkp : ((2 ^ k : Nat) : Int) = ((2 ^ k : Nat) : Int) := rfl
 obtain ⟨N, hN⟩ := exE (2 ^ k)
 obtain ⟨nL, hnL⟩ := exE (L.length)
 have HE8 : Hid (2 ^ (k + 3) = 8 * N) := by unfold Hid; rw [hN]; exact e8
 simp only [HE8.out, <- hN, <- hnL] at HCP HPC HSH HNW HRT HRT8 HWD HON HCL HCM HIN HRS ⊢
 clear hfit hzl hwd hrk hd8 hlt8 hl1 hl hlq hrl a4 b9 e8 hd hw20 hFo hkp hN hnL HE8 hI hIB hsz hout hF hFz hL hLz hx hy ha hk2 hk9
 obtain ⟨W0, hW0⟩ := exE (w.alloc (.cells #[.int .i64 size, .slice aL nL cL] 24))
 have hb0 := blA hW0
 have hs0 := haA hW0
 have HB0 := hid hb0
 have HK0 : Hid (∀ W, Below W0.heap.size W0 W -> W.cell? ⟨w.heap.size, 0, none⟩ = some (.int .i64 size) /\ W.cell? ⟨w.heap.size, 1, none⟩ = some (.slice aL nL cL)) := fun W hW => by
  have hlt : w.heap.size < W0.heap.size := (Array.getElem?_eq_some_iff.1 hs0).1
  have h1 := (hW.block w.heap.size hlt).trans hs0
  exact ⟨by simp [World.cell?, h1], by simp [World.cell?, h1]⟩
 clear hb0 hs0
 go_enter Tryz.func3, Tryz.ntmps3
 go_wp2_with fail
 rw [<- hW0]
 clear hW0
 refine (HN.out _).mono ?_
 rintro e w1 ⟨rfl, hc1, hb1, hlt1⟩
 have HB1 : Hid (Below W0.heap.size W0 w1) := hb1
 have HC1 : Hid (∀ W, Below w1.heap.size w1 W -> W.cell? ⟨W0.heap.size, 0, none⟩ = some (.int .i64 q)) := fun W hW => (hW.cell (p := ⟨W0.heap.size, 0, none⟩) hlt1).trans hc1
 obtain ⟨fb, hfb⟩ := exE (W0.heap.size)
 rw [<- hfb] at HC1 ⊢
 clear hc1 hb1 hlt1 HN hfb
 go_wp2_with fail
 refine (HCP.out w1 (HB0.out.trans (HB1.out.mono HB0.out.size))).mono ?_
 rintro e w2 ⟨a2, c2, rfl, hl2, hb2⟩
 have HB2 : Hid (Below w1.heap.size w1 w2) := hb2
 have HO2 : Hid (Below W0.heap.size W0 w2) := HB1.out.trans (hb2.mono HB1.out.size)
 have HL2 := hid hl2
 obtain ⟨k0, k1⟩ := HK0.out w2 HO2.out
 clear hb2 hl2 HCP
 go_wp2_with fail
 clear k0 k1
 refine (HPC.out fb a2 c2 w2 (HB0.out.trans (HO2.out.mono HB0.out.size)) (HC1.out w2 HB2.out) HL2.out).mono ?_
 rintro e w3 ⟨X, g, rH, rD, hg, hrH, hrD, rfl, hX, hXl, hb3⟩
 have HO3 : Hid (Below W0.heap.size W0 w3) := HO2.out.trans (hb3.mono HO2.out.size)
 have HL3 : Hid (LstR w3.heap.size w3 a2 c2 rows) := (HL2.out.below hb3).mono hb3.size
 have HX3 := hid hX
 have HGG := hid (And.intro hg (And.intro hrH hrD))
 obtain ⟨k0, k1⟩ := HK0.out w3 HO3.out
 clear hb3 HL2 HPC HC1 hg hrH hrD hX hXl HB2 HO2
 go_wp2_with fail
 clear k0 k1
 refine (HSH.out w3 (HB0.out.trans (HO3.out.mono HB0.out.size))).mono ?_
 rintro e w4 ⟨rfl, hb4⟩
 have HO4 : Hid (Below W0.heap.size W0 w4) := HO3.out.trans (hb4.mono HO3.out.size)
 have HL4 : Hid (LstR w4.heap.size w4 a2 c2 rows) := (HL3.out.below hb4).mono hb4.size
 have HX4 : Hid (∀ W, Below w4.heap.size w4 W -> W.rowIs X 3 (8 * N) (fun i => .int .i64 (cpv q N g rH rD L size out rows z x y a i))) := fun W hW => by
  obtain ⟨cc, hcc, h5, h6⟩ := HX3.out
  have hl := (Array.getElem?_eq_some_iff.1 hcc).1
  exact ⟨cc, ((hW.block X (Nat.lt_of_lt_of_le hl hb4.size)).trans (hb4.block X hl)).trans hcc, h5, h6⟩
 obtain ⟨k0, k1⟩ := HK0.out w4 HO4.out
 clear hb4 HL3 HSH HX3 HO3
 go_wp2_with fail
 clear k0 k1
 refine (HNW.out w4).mono ?_
 rintro e w5 ⟨t, g', rH', rD', rfl, hT, htl, hg', hrH', hrD', hb5⟩
 obtain rfl : g = g' := Num.genIs_unique HGG.out.1 hg'
 obtain rfl : rH = rH' := rootIs_unique HGG.out.2.1 hrH'
 obtain rfl : rD = rD' := rootIs_unique HGG.out.2.2 hrD'
 have HBD : Hid (g < q /\ rH < q /\ rD < q) := ⟨HGN.out g hg', HRT.out rH hrH', HRT8.out rD hrD'⟩
 obtain ⟨W6, hW6⟩ := exE (((w5.setCell ⟨t, 13, none⟩ (.int .i64 x)).setCell ⟨t, 14, none⟩ (.int .i64 y)).setCell ⟨t, 15, none⟩ (.int .i64 a))
 have hT6 : RTA W6 t q N g rH rD size out aL nL cL x y a 0 := by
  rw [hW6]
  have h1 : RTA (w5.setCell ⟨t, 13, none⟩ (.int .i64 x)) t q N g rH rD size out aL nL cL x 0 0 0 := hT.put 13 _
  have h2 : RTA ((w5.setCell ⟨t, 13, none⟩ (.int .i64 x)).setCell ⟨t, 14, none⟩ (.int .i64 y)) t q N g rH rD size out aL nL cL x y 0 0 := h1.put 14 _
  exact h2.put 15 _
 have hb6 : Below w4.heap.size w4 W6 := by rw [hW6]; exact ((hb5.setCell (p := ⟨t, 13, none⟩) htl _).setCell (p := ⟨t, 14, none⟩) htl _).setCell (p := ⟨t, 15, none⟩) htl _
 have HT6 := hid hT6
 have HB6 := hid hb6
 have f5 : ∀ j, w5.frozen? ⟨t, j, none⟩ = false := fun j => by
  have h0 := hT
  unfold RTA at h0
  simp [World.frozen?, h0]
 have c13 : w5.cell? ⟨t, 13, none⟩ = some (.int .i64 0) := hT.cell 13 rfl
 have c14 : w5.cell? ⟨t, 14, none⟩ = some (.int .i64 0) := hT.cell 14 rfl
 have c15 : w5.cell? ⟨t, 15, none⟩ = some (.int .i64 0) := hT.cell 15 rfl
 have f13 := f5 13
 have f14 := f5 14
 have f15 := f5 15
 clear hT htl hg' hrH' hrD' hb5 hT6 hb6 f5 HGG HGN HRT HRT8 HNW
 go_wp2_with fail
 rw [<- hW6]
 clear hW6 c13 c14 c15 f13 f14 f15
 have HO6 : Hid (Below W0.heap.size W0 W6) := HO4.out.trans (HB6.out.mono HO4.out.size)
 refine (HWD.out t g rH rD W6 (HB0.out.trans (HO6.out.mono HB0.out.size)) HBD.out.1 HBD.out.2.1 HBD.out.2.2 HT6.out).mono ?_
 rintro e w7 ⟨G, rfl, hG1, hG2, hb7⟩
 have HB7 : Hid (Below w4.heap.size w4 w7) := HB6.out.trans (hb7.mono HB6.out.size)
 have HO7 : Hid (Below W0.heap.size W0 w7) := HO4.out.trans (HB7.out.mono HO4.out.size)
 have HT7 : Hid (RTA w7 t q N g rH rD size out aL nL cL x y a 0) := HT6.out.below hb7 HT6.out.lt
 have HG7 := hid hG2
 clear hG1 hG2 hb7 HT6 HWD HB6 HO6
 go_wp2_with fail
 refine (HON.out w7 (HB0.out.trans (HO7.out.mono HB0.out.size))).mono ?_
 rintro e w8 ⟨a3, c3, rfl, hl3, hb8⟩
 have HB8 : Hid (Below w4.heap.size w4 w8) := HB7.out.trans (hb8.mono HB7.out.size)
 have HT8 : Hid (RTA w8 t q N g rH rD size out aL nL cL x y a 0) := HT7.out.below hb8 HT7.out.lt
 have HG8 := hid ((HG7.out.below hb8).mono hb8.size)
 have HL3 := hid hl3
 clear hl3 hb8 HT7 HON HB7 HG7 HO7
 have HC8 := hid (HCL.out t g rH rD c3 a3 w8 HBD.out.1 HBD.out.2.1 HBD.out.2.2 HT8.out HL3.out)
 rw [show (((0 : Nat) : Int)) = 0 from rfl] at HC8
 go_wp2_with fail
 refine HC8.out.mono ?_
 rintro e w9 ⟨Gz, Nz, F, rfl, _, hZ, hNz, hFi, hb9⟩
 have HB9 : Hid (Below w4.heap.size w4 w9) := HB8.out.trans (hb9.mono HB8.out.size)
 have HO9 : Hid (Below W0.heap.size W0 w9) := HO4.out.trans (HB9.out.mono HO4.out.size)
 have HT9 : Hid (RTA w9 t q N g rH rD size out aL nL cL x y a 0) := HT8.out.below hb9 HT8.out.lt
 have HG9 := hid ((HG8.out.below hb9).mono hb9.size)
 have HC9 := hid (HCM.out t g rH rD G Gz Nz F w9 (HB0.out.trans (HO9.out.mono HB0.out.size)) HBD.out.1 HBD.out.2.1 HBD.out.2.2 HT9.out HG9.out hZ hNz hFi)
 clear hZ hNz hFi hb9 HC8 HCL HCM HT8 HT9 HG8 HG9 HL3 HB8
 go_wp2_with fail
 refine HC9.out.mono ?_
 rintro e w10 ⟨a5, c5, rfl, hr5, hb10⟩
 have HB10 : Hid (Below w4.heap.size w4 w10) := HB9.out.trans (hb10.mono HB9.out.size)
 have HO10 : Hid (Below W0.heap.size W0 w10) := HO4.out.trans (HB10.out.mono HO4.out.size)
 have HR10 := hid hr5
 clear hr5 hb10 HC9 HB9 HO9
 go_wp2_with fail
 refine (HEN.out w10).mono ?_
 rintro e w11 ⟨rfl, rfl⟩
 have HI10 := hid (HIN.out g rH rD X c5 a5 w11 (HX4.out w11 HB10.out) HR10.out)
 clear HIN HX4 HR10
 go_wp2_with fail
 refine HI10.out.mono ?_
 rintro e w12 ⟨rfl, n12, rfl⟩
 have HR12 := hid (HRS.out a2 c2 (w11.drewN n12) (HB0.out.trans ((below_drewN HO10.out n12).mono HB0.out.size)) ((HL4.out.below (below_drewN HB10.out n12)).mono (below_drewN HB10.out n12).size))
 clear HRS HI10
 go_wp2_with fail
 refine HR12.out.mono ?_
 rintro e w13 ⟨rfl, n13, rfl⟩
 clear HR12
 go_wp2_with fail
 go_ret
 exact ⟨by first | rfl | simp, HB0.out.trans ((below_drewN HO10.out (n12 + n13)).mono HB0.out.size)⟩
theorem wcomposes_no (q : Nat) (cL cR cz nL : Nat) (size out x y a : Int) (aL aR az : Option Addr) (rows : List (List Int)) (z : List Int) (w : World) (hLd : Laid w) (hpr : Num.Prime q) (h3 : 3 <= q) (h4 : q <= 2147483647) (hno : ¬ CpOk q nL rows z) (hnl : nL <= 281474976710656) (hrl : rows.length <= 5864062014805)
  (hF : FitsR rows) (hL : LstR w.heap.size w aR cR rows) :
  Calls Tryz.prog 3 #[.int .i64 q, .agg #[.int .i64 size, .slice aL nL cL], .int .i64 out, .slice aR rows.length cR, .slice az z.length cz, .int .i64 x, .int .i64 y, .int .i64 a] w fun e w' => e = .returned (.bool true) /\ Below w.heap.size w w' := by
 have HN := hid (fun w1 => field_yes q w1 h3 h4 hpr)
 have hrn : ∀ j, j < rows.length -> (rat rows j).length <= 17592186044000 := fun j hj => (hF j hj).2
 have HCP : Hid (∀ W, Below w.heap.size w W -> Calls Tryz.prog 5 #[.slice aR rows.length cR] W fun e w' => ∃ a2 c2, e = .returned (.slice a2 rows.length c2) /\ LstR w'.heap.size w' a2 c2 rows /\ Below W.heap.size W w') := fun W hW => by
  refine (copied_any cR aR rows W hrl (fun j hj => by have := hrn j hj; omega) ((hL.below hW).mono hW.size)).mono ?_
  rintro e w' ⟨v, rfl, ho, hb⟩
  obtain ⟨a2, c2, rfl, hl2⟩ := ho.lst
  exact ⟨a2, c2, rfl, hl2, hb⟩
 have HPC : Hid (∀ (b : Nat) (a2 : Option Addr) (c2 : Nat) W, W.cell? ⟨b, 0, none⟩ = some (.int .i64 q) -> LstR W.heap.size W a2 c2 rows -> Calls Tryz.prog 6 #[.pointer (some ⟨b, 0, none⟩), .agg #[.int .i64 size, .slice aL nL cL], .int .i64 out, .slice a2 rows.length c2, .slice az z.length cz, .int .i64 x, .int .i64 y, .int .i64 a] W fun e w' => e = .returned (.tuple #[.slice none 0 0, .iface 55 (.int .i64 2)]) /\ Below W.heap.size W w') := fun b a2 c2 W hc h2 =>
  pcompose_no q b nL cL c2 cz size out x y a aL a2 az rows z W h3 h4 hc hnl (by omega) h2 hno
 have HSH : Hid (∀ W, Below w.heap.size w W -> Calls Tryz.prog 7 #[.int .i64 q, .agg #[.int .i64 size, .slice aL nL cL], .slice aR rows.length cR, .slice az z.length cz] W fun e w' => e = .returned (.bool false) /\ Below W.heap.size W w') := fun W hW => by
  have h0 := wshape_any q nL cL cR cz z.length size aL aR az rows W h3 h4 hnl (by omega) (fun j hj => by have := hrn j hj; omega) ((hL.below hW).mono hW.size)
  have e0 : (fitQ q nL rows.length && wdB (20 + nL) rows && (z.length == rows.length)) = false := by
   cases h1 : fitQ q nL rows.length with
   | false => simp
   | true =>
    cases h2 : wdB (20 + nL) rows with
    | false => simp
    | true =>
     simp only [Bool.true_and]
     rw [beq_eq_false_iff_ne]
     exact fun e => hno ⟨fitQ_of h1, e, h2⟩
  rw [e0] at h0
  exact h0
 have HIN : Hid (∀ W, Calls Tryz.prog 14 #[.slice none 0 0, .slice none 0 0] W fun e w' => e = .returned (.bool true) /\ ∃ n, w' = W.drewN n) := fun W => by
  have h0 := ints_any [] [] (.slice none 0 0) (.slice none 0 0) W ⟨none, 0, rfl, fun k hk => by simp at hk⟩ ⟨none, 0, rfl, fun k hk => by simp at hk⟩ (by simp) (by simp)
  refine h0.mono ?_
  rintro e w' ⟨rfl, hn⟩
  exact ⟨by simp, hn⟩
 have HRS : Hid (∀ (a2 : Option Addr) (c2 : Nat) W, Below w.heap.size w W -> LstR W.heap.size W a2 c2 rows -> Calls Tryz.prog 15 #[.slice a2 rows.length c2, .slice aR rows.length cR] W fun e w' => e = .returned (.bool true) /\ ∃ n, w' = W.drewN n) := fun a2 c2 W hW h2 => by
  have h0 := srows_any c2 cR a2 aR rows rows W.heap.size W.heap.size W (by omega) (by omega) (fun j hj => by have := hrn j hj; omega) (fun j hj => by have := hrn j hj; omega) h2 ((hL.below hW).mono hW.size)
  simpa using h0
 have HER : Hid (∀ W, Below w.heap.size w W -> Calls Tryz.prog 13 #[.iface 55 (.int .i64 2), .int .i64 2] W fun e w' => e = .returned (.bool true) /\ Below W.heap.size W w') := fun W hW => by
  have h0 := error_hit 2 2 W (hLd.below hW)
  simpa using h0
 obtain ⟨N, hN⟩ := exE (rows.length)
 obtain ⟨nz, hnz⟩ := exE (z.length)
 simp only [<- hN, <- hnz] at HCP HPC HSH HRS ⊢
 clear hno hnl hrl hF hL hrn hN hnz hLd
 obtain ⟨W0, hW0⟩ := exE (w.alloc (.cells #[.int .i64 size, .slice aL nL cL] 24))
 have hb0 := blA hW0
 have hs0 := haA hW0
 have HB0 := hid hb0
 have HK0 : Hid (∀ W, Below W0.heap.size W0 W -> W.cell? ⟨w.heap.size, 0, none⟩ = some (.int .i64 size) /\ W.cell? ⟨w.heap.size, 1, none⟩ = some (.slice aL nL cL)) := fun W hW => by
  have hlt : w.heap.size < W0.heap.size := (Array.getElem?_eq_some_iff.1 hs0).1
  have h1 := (hW.block w.heap.size hlt).trans hs0
  exact ⟨by simp [World.cell?, h1], by simp [World.cell?, h1]⟩
 clear hb0 hs0
 go_enter Tryz.func3, Tryz.ntmps3
 go_wp2_with fail
 rw [<- hW0]
 clear hW0
 refine (HN.out _).mono ?_
 rintro e w1 ⟨rfl, hc1, hb1, hlt1⟩
 have HB1 : Hid (Below W0.heap.size W0 w1) := hb1
 have HC1 : Hid (∀ W, Below w1.heap.size w1 W -> W.cell? ⟨W0.heap.size, 0, none⟩ = some (.int .i64 q)) := fun W hW => (hW.cell (p := ⟨W0.heap.size, 0, none⟩) hlt1).trans hc1
 obtain ⟨fb, hfb⟩ := exE (W0.heap.size)
 rw [<- hfb] at HC1 ⊢
 clear hc1 hb1 hlt1 HN hfb
 go_wp2_with fail
 refine (HCP.out w1 (HB0.out.trans (HB1.out.mono HB0.out.size))).mono ?_
 rintro e w2 ⟨a2, c2, rfl, hl2, hb2⟩
 have HB2 : Hid (Below w1.heap.size w1 w2) := hb2
 have HO2 : Hid (Below W0.heap.size W0 w2) := HB1.out.trans (hb2.mono HB1.out.size)
 have HL2 := hid hl2
 obtain ⟨k0, k1⟩ := HK0.out w2 HO2.out
 clear hb2 hl2 HCP
 go_wp2_with fail
 clear k0 k1
 refine (HPC.out fb a2 c2 w2 (HC1.out w2 HB2.out) HL2.out).mono ?_
 rintro e w3 ⟨rfl, hb3⟩
 have HO3 : Hid (Below W0.heap.size W0 w3) := HO2.out.trans (hb3.mono HO2.out.size)
 have HL3 : Hid (LstR w3.heap.size w3 a2 c2 rows) := (HL2.out.below hb3).mono hb3.size
 obtain ⟨k0, k1⟩ := HK0.out w3 HO3.out
 clear hb3 HL2 HPC HC1 HB2 HO2
 go_wp2_with fail
 clear k0 k1
 refine (HSH.out w3 (HB0.out.trans (HO3.out.mono HB0.out.size))).mono ?_
 rintro e w4 ⟨rfl, hb4⟩
 have HO4 : Hid (Below W0.heap.size W0 w4) := HO3.out.trans (hb4.mono HO3.out.size)
 have HL4 : Hid (LstR w4.heap.size w4 a2 c2 rows) := (HL3.out.below hb4).mono hb4.size
 clear hb4 HL3 HSH HO3
 go_wp2_with fail
 refine (HER.out w4 (HB0.out.trans (HO4.out.mono HB0.out.size))).mono ?_
 rintro e w10 ⟨rfl, hb10⟩
 have HO10 : Hid (Below W0.heap.size W0 w10) := HO4.out.trans (hb10.mono HO4.out.size)
 have HL10 : Hid (LstR w10.heap.size w10 a2 c2 rows) := (HL4.out.below hb10).mono hb10.size
 clear hb10 HL4 HO4
 go_wp2_with fail
 refine (HIN.out w10).mono ?_
 rintro e w12 ⟨rfl, n12, rfl⟩
 have HR12 := hid (HRS.out a2 c2 (w10.drewN n12) (HB0.out.trans ((below_drewN HO10.out n12).mono HB0.out.size)) ((HL10.out.below (below_drewN (Below.refl w10.heap.size w10) n12)).mono (below_drewN (Below.refl w10.heap.size w10) n12).size))
 clear HRS HIN
 go_wp2_with fail
 refine HR12.out.mono ?_
 rintro e w13 ⟨rfl, n13, rfl⟩
 clear HR12
 go_wp2_with fail
 go_ret
 exact ⟨by first | rfl | simp, HB0.out.trans ((below_drewN HO10.out (n12 + n13)).mono HB0.out.size)⟩
theorem wcomposes_walk (p : Int) (cL cR cz : Nat) (size out x y a : Int) (aL aR az : Option Addr) (L : List InsZ) (rows : List (List Int)) (z : List Int) (w : World) (hLd : Laid w) (hp1 : -9223372036854775808 <= p) (hp2 : p <= 9223372036854775807)
  (hI : LstI w.heap.size w aL cL L) (hIB : InsB L) (hln : L.length <= 281474976710656) (hsz : I64 size) (hout : I64 out) (hF : FitsR rows) (hrl : rows.length <= 5864062014805) (hFz : Fits z) (hL : LstR w.heap.size w aR cR rows) (hLz : RowB w.heap.size w az z) (hx : I64 x) (hy : I64 y) (ha : I64 a) :
  Calls Tryz.prog 3 #[.int .i64 p, .agg #[.int .i64 size, .slice aL L.length cL], .int .i64 out, .slice aR rows.length cR, .slice az z.length cz, .int .i64 x, .int .i64 y, .int .i64 a] w fun e w' => e = .returned (.bool true) /\ Below w.heap.size w w' := by
 by_cases hok : okPrime p
 ·obtain ⟨q, rfl⟩ := Int.eq_ofNat_of_zero_le (show 0 <= p by have := hok.1; omega)
  obtain ⟨hq3, hq4, hqp⟩ := hok
  rw [Int.toNat_natCast] at hqp
  have h3 : 3 <= q := by omega
  have h4 : q <= 2147483647 := by omega
  by_cases hc : CpOk q L.length rows z
  ·exact wcomposes_yes q cL cR cz size out x y a aL aR az L rows z w hqp h3 h4 hc hI hIB hsz hout hF hFz hL hLz hx hy ha
  ·exact wcomposes_no q cL cR cz L.length size out x y a aL aR az rows z w hLd hqp h3 h4 hc hln hrl hF hL
 ·have HN : Hid (∀ w1 : World, Laid w1 -> Calls Tryz.prog 4 #[.int .i64 p] w1 fun e w' => e = .returned (.tuple #[.pointer none, .bool true]) /\ Below w1.heap.size w1 w') := fun w1 h => field_no p w1 h hok hp1 hp2
  obtain ⟨W0, hW0⟩ := exE (w.alloc (.cells #[.int .i64 size, .slice aL L.length cL] 24))
  have hb0 := blA hW0
  have HB0 := hid hb0
  have HL0 := hid (hLd.below hb0)
  clear hok hLd hb0 hI hIB hF hFz hL hLz hrl hln
  go_enter Tryz.func3, Tryz.ntmps3
  go_wp2_with fail
  rw [<- hW0]
  refine (HN.out _ HL0.out).mono ?_
  rintro e w4 ⟨rfl, hb4⟩
  have HB4 : Hid (Below w.heap.size w w4) := HB0.out.trans (hb4.mono HB0.out.size)
  clear hb4
  go_wp2_with fail
  go_ret
  exact ⟨rfl, HB4.out⟩
end Go.Proofs.YtjlngcmkgkiplaaGreatDoor
