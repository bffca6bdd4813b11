
import Derived.Test.YtjlngcmkgkiplaaGreatDoorWcAY
import Derived.Test.YtjlngcmkgkiplaaGreatDoorWcAQ
import Derived.Test.YtjlngcmkgkiplaaGreatDoorTres
import Derived.Test.YtjlngcmkgkiplaaGreatDoorWcAP
import Derived.Test.YtjlngcmkgkiplaaGreatDoorDoms
import Derived.Test.YtjlngcmkgkiplaaGreatDoorWcAW
import Derived.Test.YtjlngcmkgkiplaaGreatDoorHeldS
import Derived.Test.YtjlngcmkgkiplaaGreatDoorWcAK
import Derived.Maps.AppendAt
import Derived.Test.YtjlngcmkgkiplaaGreatDoorPlain
import Derived.Test.YtjlngcmkgkiplaaGreatDoorRefs
import Derived.Deep.RegionHeld3
set_option maxRecDepth 1000000
set_option maxHeartbeats 8000000
namespace Go.Proofs.YtjlngcmkgkiplaaGreatDoor
open Go.RowKit Go.Maps
def CpOk (q nL : Nat) (rows : List (List Int)) (z : List Int) : Prop := FitP q nL (rows.length : Int) /\ z.length = rows.length /\ wdB (20 + nL) rows = true
theorem pcompose_no (q b nL cL cR cz : Nat) (size out x y a : Int) (aL aR az : Option Addr) (rows : List (List Int)) (z : List Int) (w : World) (h3 : 3 <= q) (h4 : q <= 2147483647) (hp : w.cell? ⟨b, 0, none⟩ = some (.int .i64 q)) (hl : nL <= 281474976710656) (hrl : rows.length <= 281474976710656) (hL : LstR w.heap.size w aR cR rows) (hno : ¬ CpOk q nL rows z) :
  Calls Tryz.prog 6 #[.pointer (some ⟨b, 0, none⟩), .agg #[.int .i64 size, .slice aL nL cL], .int .i64 out, .slice aR rows.length cR, .slice az z.length cz, .int .i64 x, .int .i64 y, .int .i64 a] w fun e w' => e = .returned (.tuple #[.slice none 0 0, .iface 55 (.int .i64 2)]) /\ Below w.heap.size w w' := by
 have hbl : b < w.heap.size := heap_lt hp
 have HFT : Hid (∀ W, Below w.heap.size w W -> Calls Tryz.prog 18 #[.pointer (some ⟨b, 0, none⟩), .agg #[.int .i64 size, .slice aL nL cL], .int .i64 (rows.length : Int)] W fun e w' => e = .returned (.bool (fitQ q nL rows.length)) /\ Below W.heap.size W w') := fun W hW => pfits_any q b nL cL size _ aL W h3 h4 ((hW.cell (p := ⟨b, 0, none⟩) hbl).trans hp) (by omega)
 have HWI := hid (fun W => pwidth_any size aL nL cL W hl)
 have HIW : Hid (∀ W, Below w.heap.size w W -> Calls Tryz.prog 19 #[.slice aR rows.length cR, .int .i64 ((20 + nL : Nat) : Int)] W fun e w' => e = .returned (.bool (wdB (20 + nL) rows)) /\ Below W.heap.size W w') := fun W hW => wisWide_any cR (20 + nL) aR rows W (by omega) ((hL.below hW).mono hW.size)
 have HNO : Hid (fitQ q nL rows.length = true -> z.length = rows.length -> wdB (20 + nL) rows = true -> False) := fun h1 h2 h5 => hno ⟨fitQ_of h1, h2, h5⟩
 obtain ⟨n, hn⟩ := exE (rows.length)
 obtain ⟨nz, hnz⟩ := exE (z.length)
 obtain ⟨m0, hm0⟩ := exE (20 + nL)
 simp only [<- hm0, <- hn, <- hnz] at HFT HWI HIW HNO hrl
 obtain ⟨fq, hfq⟩ := exE (fitQ q nL (n : Int))
 obtain ⟨wd, hwd⟩ := exE (wdB m0 rows)
 simp only [<- hfq, <- hwd] at HFT HIW HNO
 rw [<- hn, <- hnz]
 obtain ⟨W0, hW0⟩ := exE (w.alloc (.cells #[.int .i64 size, .slice aL nL cL] 24))
 have hb0 := blA hW0
 have hs0 := haA hW0
 obtain ⟨A, hA⟩ := exE (w.heap.size)
 have k1 : W0.cell? ⟨A, 0, none⟩ = some (.int .i64 size) := by rw [hA]; simp [World.cell?, hs0]
 have k2 : W0.cell? ⟨A, 1, none⟩ = some (.slice aL nL cL) := by rw [hA]; simp [World.cell?, hs0]
 have HAL : Hid (A < W0.heap.size) := by unfold Hid; rw [hA]; exact (Array.getElem?_eq_some_iff.1 hs0).1
 have HB0 := hid hb0
 have HFI := hid (HFT.out W0 hb0)
 clear hb0 hs0 hp hL hno hfq hwd hm0 hn hnz HFT hl
 cases fq with
 | false =>
  go_enter Tryz.func6, Tryz.ntmps6
  go_wp2_with fail
  rw [<- hW0, <- hA]
  clear hW0 hA
  go_wp2_with fail
  refine HFI.out.mono ?_
  rintro e w1 ⟨rfl, hb1⟩
  have HB1 := hid (HB0.out.trans (hb1.mono HB0.out.size))
  clear hb1 HFI HAL HB0 k1 k2
  go_wp2_with fail
  go_ret2
  exact ⟨rfl, HB1.out⟩
 | true =>
  by_cases hz : nz = n
  ·subst hz
   have HWF : Hid (wd = false) := by
    cases wd with
    | false => rfl
    | true => exact (HNO.out rfl rfl rfl).elim
   rw [HWF.out] at HIW
   clear HNO HWF
   have qn : ((nz : Int) == (nz : Int)) = true := beq_self_eq_true _
   go_enter Tryz.func6, Tryz.ntmps6
   go_wp2_with fail
   rw [<- hW0, <- hA]
   clear hW0 hA
   go_wp2_with fail
   refine HFI.out.mono ?_
   rintro e w1 ⟨rfl, hb1⟩
   have HB1 := hid (HB0.out.trans (hb1.mono HB0.out.size))
   replace k1 := (hb1.cell (p := ⟨A, 0, none⟩) HAL.out).trans k1
   replace k2 := (hb1.cell (p := ⟨A, 1, none⟩) HAL.out).trans k2
   clear hb1 HFI HAL HB0
   go_wp2_with fail
   refine (HWI.out w1).mono ?_
   rintro e w2 ⟨rfl, hb2⟩
   have HB2 := hid (HB1.out.trans (hb2.mono HB1.out.size))
   clear hb2 HWI HB1 k1 k2
   go_wp2_with fail
   refine (HIW.out w2 HB2.out).mono ?_
   rintro e w3 ⟨rfl, hb3⟩
   have HB3 := hid (HB2.out.trans (hb3.mono HB2.out.size))
   clear hb3 HIW HB2
   go_wp2_with fail
   go_ret2
   exact ⟨rfl, HB3.out⟩
  ·have qn : ((nz : Int) == (n : Int)) = false := by rw [beq_eq_false_iff_ne]; omega
   clear HNO
   go_enter Tryz.func6, Tryz.ntmps6
   go_wp2_with fail
   rw [<- hW0, <- hA]
   clear hW0 hA
   go_wp2_with fail
   refine HFI.out.mono ?_
   rintro e w1 ⟨rfl, hb1⟩
   have HB1 := hid (HB0.out.trans (hb1.mono HB0.out.size))
   clear hb1 HFI HAL HB0 k1 k2
   go_wp2_with fail
   go_ret2
   exact ⟨rfl, HB1.out⟩
theorem onez_take {l : List Int} {k : Nat} (h : k < l.length) : (onez l).take (k + 1) = (onez l).take k ++ [[zat l k]] := by
 rw [take_succ_rat (by rw [onez_len]; exact h), onez_rat h]
theorem wpList_row1g {ops : Array Oper} {rest : List Oper} {o : Oper} {act : Act} {Q : Exit -> Act -> World -> Prop} (W : World) (base gx : Nat) (hgd : o.guard = none) (s x : Operand)
  (ho : o.op = .call { callee := .builtin .append, args := #[s, x], argTypes := #[25, 25] }) (v u : Value) (rs : List (List Int)) (r : List Int)
  (hown : OwnR base W v rs) (hu : SlR W r u) (hs : act.eval s = v) (hgx : gx = W.heap.size) (hx : act.eval x = .slice (some ⟨gx, 0, none⟩) 1 1) (hlen : rs.length + 1 <= 5864062014805) (hbase : base <= W.heap.size)
  (h : ∀ v' w2, OwnR base w2 v' (rs ++ [r]) -> Below base W w2 -> (∀ b, b < W.heap.size -> NotRow W b -> w2.heap[b]? = W.heap[b]?) -> wpList Tryz.prog ops Q rest (act.put o.dst v') w2) :
  wpList Tryz.prog ops Q (o :: rest) act (W.alloc (.cells #[u] 26)) := by
 subst hgx
 exact wpList_row1 W base hgd s x ho v u rs r hown hu hs hx hlen hbase h
theorem rone_any (cap : Nat) (a : Option Addr) (l : List Int) (w : World) (hn : l.length <= 100000) (hl : RowB w.heap.size w a l) :
  Calls Tryz.prog 10 #[.slice a l.length cap] w fun e w' => ∃ v, e = .returned v /\ OwnR w.heap.size w' v (onez l) /\ Below w.heap.size w w' := by
 have HL := hid hl
 obtain ⟨n, hn'⟩ : ∃ n, n = l.length := ⟨_, rfl⟩
 have HN := hid hn'
 rw [<- hn'] at hn ⊢
 clear hl hn'
 go_enter Tryz.func10, Tryz.ntmps10
 go_wp2_with fail
 go_loopw [3, 4] (fun v iv wr => ∃ k : Nat, k <= n /\ iv = .int .i64 k /\ Hid (OwnR w.heap.size wr v ((onez l).take k)) /\ Hid (Below w.heap.size w wr))
  (fun _ iv _ => n - (intOf iv).toNat)
 case atStart => exact ⟨0, Nat.zero_le _, rfl, by rw [List.take_zero]; exact OwnR.nil _ _, Below.refl _ _⟩
 case round =>
  obtain ⟨k, hk, rfl, hown, hbel⟩ := hrel
  by_cases hlt : k < n
  ·have hlt2 : (k : Int) < (n : Int) := by omega
   have hkw : IntKind.i64.wrap ((k : Int) + 1) = (k : Int) + 1 := by rw [IntKind.wrap_i64]; omega
   have hkL : k < l.length := by rw [<- HN.out]; exact hlt
   obtain ⟨b, o, rfl, hb, hc⟩ := HL.out k hkL
   have hcx := (hbel.out.cell (p := ⟨b, o + k, none⟩) hb).trans hc
   have HTK := hid (onez_take hkL)
   have HKL : Hid (((onez l).take k).length = k) := by unfold Hid; rw [List.length_take, onez_len]; omega
   generalize zat l k = x at *
   obtain ⟨W2, hW2⟩ := exE (wr.alloc (.cells #[.int .i64 x] 3))
   have hb2 := blA hW2
   have hr2 := haA hW2
   have HS2 : Hid (SlR W2 [x] (.slice (some ⟨wr.heap.size, 0, none⟩) 1 1)) := by
    refine ⟨_, _, rfl, ⟨fun j hj => ?_, Nat.le_refl _, fun h => by cases h⟩, fun _ => ⟨_, _, rfl, _, _, _, hr2, by decide, by decide, by decide, by decide, by decide, by decide⟩⟩
    have : j = 0 := by simpa using hj
    subst this
    exact ⟨_, _, rfl, (Array.getElem?_eq_some_iff.1 hr2).1, by simp [World.cell?, hr2, zat]⟩
   have HO2 := hid (hown.out.keep hb2)
   have HB2 : Hid (Below w.heap.size w W2) := hbel.out.trans (hb2.mono hbel.out.size)
   have HZ2 : Hid (W2.heap.size = wr.heap.size + 1) := by unfold Hid; rw [hW2]; simp
   clear hc hb2 hr2 hown hkL
   rw [hW2] at HO2 HS2 HB2
   clear hW2 HZ2
   go_wp2_with (at_builtin; refine wpList_row1g (wr.alloc (.cells #[.int .i64 x] 3)) w.heap.size (wr.heap.size + 1) rfl _ _ rfl _ _ ((onez l).take k) [x] HO2.out HS2.out rfl (by simp) rfl (by rw [HKL.out]; omega) HB2.out.size ?_)
   intro v3 w3 ho3 hb3 _
   rw [<- HTK.out] at ho3
   have HO3 := hid ho3
   have HB3 : Hid (Below w.heap.size w w3) := HB2.out.trans hb3
   clear ho3 hb3
   go_wp2_with fail
   go_roundw
   case rel => exact ⟨k + 1, by omega, by go_num, HO3, HB3⟩
   case measure => simp [intOf]; omega
  ·obtain rfl : k = n := by omega
   have hlt2 : ¬ (k : Int) < (k : Int) := by omega
   rw [List.take_of_length_le (by rw [onez_len, <- HN.out]; exact Nat.le_refl _)] at hown
   have HO := hid hown.out
   clear hown
   go_wp2_with fail
   go_ret
   exact ⟨_, rfl, HO.out, hbel.out⟩
def twB (n : Int) (j : Nat) : Bool := (List.range j).any fun i => decide (n = ((2 ^ (i + 2) : Nat) : Int))
theorem twB_succ (n : Int) (j : Nat) : twB n (j + 1) = (twB n j || decide (n = ((2 ^ (j + 2) : Nat) : Int))) := by simp [twB, List.range_succ]
theorem twB_yes {n : Int} {j : Nat} (h : twB n j = true) : ∃ k, 2 <= k /\ k < j + 2 /\ n = ((2 ^ k : Nat) : Int) := by
 unfold twB at h
 rw [List.any_eq_true] at h
 obtain ⟨i, hi, he⟩ := h
 rw [List.mem_range] at hi
 exact ⟨i + 2, by omega, by omega, of_decide_eq_true he⟩
theorem twB_no {n : Int} {j k : Nat} (h : twB n j = false) (h1 : 2 <= k) (h2 : k < j + 2) : n ≠ ((2 ^ k : Nat) : Int) := fun e => by
 unfold twB at h
 rw [List.any_eq_false] at h
 have := h (k - 2) (List.mem_range.2 (by omega))
 rw [show k - 2 + 2 = k by omega] at this
 exact this (decide_eq_true e)
theorem rfits_any (q nL cL : Nat) (size n : Int) (aL : Option Addr) (w : World) (h3 : 3 <= q) (h4 : q <= 2147483647) (hnL : nL <= 281474976710656) :
  Calls Tryz.prog 26 #[.int .i64 q, .agg #[.int .i64 size, .slice aL nL cL], .int .i64 n] w fun e w' => e = .returned (.bool (fitQ q nL n)) /\ Below w.heap.size w w' := by
 obtain ⟨W0, hW0⟩ := exE (w.alloc (.cells #[.int .i64 size, .slice aL nL cL] 24))
 have hb0 := blA hW0
 have hs0 := haA hW0
 have k1 := clA 1 hs0 rfl
 have HB0 := hid hb0
 have HSU : Hid (∀ j, twB n (j + 1) = (twB n j || decide (n = ((2 ^ (j + 2) : Nat) : Int)))) := twB_succ n
 have HT : Hid (twB n 8 = true -> ∃ m : Nat, n = (m : Int) /\ 4 <= m /\ m <= 512 /\ (fitQ q nL n = (decide ((((q - 1) % (8 * m) : Nat) : Int) = 0) && decide (8 * (m : Int) < (q : Int) - 1) && decide ((1 : Int) <= (nL : Int)) && decide ((nL : Int) <= 64) && decide ((nL : Int) <= (q : Int))))) := fun h => by
  obtain ⟨k, hk2, hk9, e⟩ := twB_yes h
  have a : 2 ^ 2 <= 2 ^ k := Nat.pow_le_pow_right (by decide) hk2
  have b : 2 ^ k <= 2 ^ 9 := Nat.pow_le_pow_right (by decide) (by omega)
  refine ⟨2 ^ k, e, by omega, by omega, ?_⟩
  by_cases c : (q - 1) % (8 * 2 ^ k) = 0 /\ 8 * 2 ^ k < q - 1 /\ 1 <= nL /\ nL <= 64 /\ nL <= q
  ·rw [fitQ_yes ⟨k, hk2, by omega, e, c⟩]
   obtain ⟨c1, c2, c3, c4, c5⟩ := c
   rw [c1, decide_eq_true (show 8 * ((2 ^ k : Nat) : Int) < (q : Int) - 1 by omega), decide_eq_true (show (1 : Int) <= (nL : Int) by omega), decide_eq_true (show (nL : Int) <= 64 by omega), decide_eq_true (show (nL : Int) <= (q : Int) by omega)]
   rfl
  ·rw [fitQ_no fun ⟨k', _, _, e', h⟩ => c (by
    have e2 : 2 ^ k = 2 ^ k' := by omega
    rw [<- e2] at h; exact h)]
   symm
   apply Bool.eq_false_iff.2
   intro h
   simp only [Bool.and_eq_true, decide_eq_true_eq] at h
   exact c ⟨by omega, by omega, by omega, by omega, by omega⟩
 have HN : Hid (twB n 8 = false -> fitQ q nL n = false) := fun h => fitQ_no fun ⟨k, h1, h2, e, _⟩ => twB_no h h1 (by omega) e
 have HPW : Hid (∀ j, j <= 8 -> 2 ^ (j + 2) <= 1024) := fun j hj => Nat.le_trans (Nat.pow_le_pow_right (by decide : 0 < 2) (show j + 2 <= 10 by omega)) (by decide)
 have HPS : Hid (∀ j : Nat, 2 ^ (j + 1 + 2) = 2 ^ (j + 2) * 2) := fun j => by rw [show j + 1 + 2 = (j + 2) + 1 by omega, Nat.pow_succ]
 have HP7 : Hid (∀ j, j < 8 -> 2 ^ (j + 2) <= 512) := fun j hj => Nat.le_trans (Nat.pow_le_pow_right (by decide : 0 < 2) (show j + 2 <= 9 by omega)) (by decide)
 clear hb0 hs0
 generalize fitQ q nL n = R at *
 obtain ⟨B, hB⟩ := exE (twB n)
 have HB00 : Hid (B 0 = false) := by unfold Hid; rw [hB]; rfl
 rw [<- hB] at HSU HT HN
 clear hB
 go_enter Tryz.func26, Tryz.ntmps26
 go_wp2_with fail
 rw [<- hW0]
 clear hW0
 go_loop [7, 8] (fun tv kv => ∃ j : Nat, j <= 8 /\ tv = .bool (B j) /\ kv = .int .i64 ((2 ^ (j + 2) : Nat) : Int)) (fun _ kv => 2048 - (intOf kv).toNat)
 case atStart => exact ⟨0, by omega, by rw [HB00.out], rfl⟩
 case round =>
  obtain ⟨j, hj, rfl, rfl⟩ := hrel
  have e2 := HPS.out j
  have HSJ := hid (HSU.out j)
  by_cases hj8 : j < 8
  ·have hle := HP7.out j hj8
   obtain ⟨P, hP⟩ := exE (2 ^ (j + 2))
   rw [<- hP] at e2 hle HSJ ⊢
   have hPpos : 1 <= P := by rw [hP]; exact Nat.pow_pos (by decide)
   have HP := hid hP
   have hle2 : (P : Int) <= 512 := by omega
   have w2 : IntKind.i64.wrap ((P : Int) * 2) = (P : Int) * 2 := by rw [IntKind.wrap_i64]; omega
   obtain ⟨bj, hbj⟩ := exE (B j)
   rw [<- hbj] at HSJ ⊢
   have HE2 := hid e2
   clear hbj hP e2
   cases bj with
   | true =>
    have HK : Hid (B (j + 1) = true) := by unfold Hid; rw [HSJ.out]; rfl
    clear HSJ
    go_wp2_with fail
    go_round
    case rel => exact ⟨j + 1, by omega, by rw [HK.out], by rw [HE2.out]; simp⟩
    case measure => simp [intOf]; omega
   | false =>
    by_cases hn : n = (P : Int)
    ·have HK : Hid (B (j + 1) = true) := by unfold Hid; rw [HSJ.out, decide_eq_true hn]; rfl
     have qn : ((P : Int) == n) = true := by rw [hn]; simp
     clear HSJ
     go_wp2_with fail
     go_round
     case rel => exact ⟨j + 1, by omega, by rw [HK.out], by rw [HE2.out]; simp⟩
     case measure => simp [intOf]; omega
    ·have HK : Hid (B (j + 1) = false) := by unfold Hid; rw [HSJ.out, decide_eq_false hn]; rfl
     have qn : ((P : Int) == n) = false := by rw [beq_eq_false_iff_ne]; exact fun e => hn e.symm
     clear HSJ
     go_wp2_with fail
     go_round
     case rel => exact ⟨j + 1, by omega, by rw [HK.out], by rw [HE2.out]; simp⟩
     case measure => simp [intOf]; omega
  ·obtain rfl : j = 8 := by omega
   have hgt : ¬ (((2 ^ (8 + 2) : Nat)) : Int) <= 512 := by decide
   clear e2 HSJ
   obtain ⟨b8, hb8⟩ := exE (B 8)
   rw [<- hb8] at HT HN ⊢
   clear hb8
   cases b8 with
   | false =>
    have HR := hid (HN.out rfl)
    clear HT HN
    go_wp2_with fail
    go_ret
    exact ⟨by rw [HR.out]; rfl, HB0.out⟩
   | true =>
    obtain ⟨m, rfl, hm4, hm5, hR⟩ := HT.out rfl
    have HF := hid hR
    have w8 : IntKind.i64.wrap (8 * (m : Int)) = 8 * (m : Int) := by rw [IntKind.wrap_i64]; omega
    have w1 : IntKind.i64.wrap ((q : Int) - 1) = (q : Int) - 1 := by rw [IntKind.wrap_i64]; omega
    have hz8 : ((8 * (m : Int)) == 0) = false := by rw [beq_eq_false_iff_ne]; omega
    have em : ((q : Int) - 1).tmod (8 * (m : Int)) = (((q - 1) % (8 * m) : Nat) : Int) := by
     rw [Int.tmod_eq_emod_of_nonneg (by omega), show (q : Int) - 1 = ((q - 1 : Nat) : Int) from by omega, show 8 * (m : Int) = ((8 * m : Nat) : Int) from by omega, <- Int.natCast_emod]
    generalize (q - 1) % (8 * m) = rm at *
    clear hR HT HN
    have fin : ∀ (b : Bool), R = b -> b = R := fun b h => h.symm
    by_cases c1 : rm = 0
    ·have q1 : ((rm : Int) == 0) = true := by rw [c1]; rfl
     by_cases c2 : 8 * m < q - 1
     ·have q2 : 8 * (m : Int) < (q : Int) - 1 := by omega
      by_cases c3 : 1 <= nL
      ·have q3 : (0 : Int) < (nL : Int) := by omega
       by_cases c4 : nL <= 64
       ·have q4 : (nL : Int) <= 64 := by omega
        by_cases c5 : nL <= q
        ·have q5 : (nL : Int) <= (q : Int) := by omega
         have HR : Hid (R = true) := by unfold Hid; rw [HF.out, c1, decide_eq_true q2, decide_eq_true (show (1 : Int) <= (nL : Int) by omega), decide_eq_true q4, decide_eq_true q5]; rfl
         go_wp2_with fail
         go_ret
         exact ⟨by rw [HR.out]; first | rfl | (simp; done) | (simp; omega), HB0.out⟩
        ·have q5 : ¬ (nL : Int) <= (q : Int) := by omega
         have HR : Hid (R = false) := by unfold Hid; rw [HF.out, decide_eq_false q5, Bool.and_false]
         go_wp2_with fail
         go_ret
         exact ⟨by rw [HR.out]; first | rfl | (simp; done) | (simp; omega), HB0.out⟩
       ·have q4 : ¬ (nL : Int) <= 64 := by omega
        have HR : Hid (R = false) := by unfold Hid; rw [HF.out, decide_eq_false q4, Bool.and_false, Bool.false_and]
        go_wp2_with fail
        go_ret
        exact ⟨by rw [HR.out]; first | rfl | (simp; done) | (simp; omega), HB0.out⟩
      ·have q3 : ¬ (0 : Int) < (nL : Int) := by omega
       have HR : Hid (R = false) := by unfold Hid; rw [HF.out, decide_eq_false (show ¬ (1 : Int) <= (nL : Int) by omega), Bool.and_false, Bool.false_and, Bool.false_and]
       go_wp2_with fail
       go_ret
       exact ⟨by rw [HR.out]; first | rfl | (simp; done) | (simp; omega), HB0.out⟩
     ·have q2 : ¬ 8 * (m : Int) < (q : Int) - 1 := by omega
      have HR : Hid (R = false) := by unfold Hid; rw [HF.out, decide_eq_false q2, Bool.and_false, Bool.false_and, Bool.false_and, Bool.false_and]
      go_wp2_with fail
      go_ret
      exact ⟨by rw [HR.out]; first | rfl | (simp; done) | (simp; omega), HB0.out⟩
    ·have q1 : ((rm : Int) == 0) = false := by rw [beq_eq_false_iff_ne]; omega
     have HR : Hid (R = false) := by unfold Hid; rw [HF.out, decide_eq_false (show ¬ ((rm : Int) = 0) by omega), Bool.false_and, Bool.false_and, Bool.false_and, Bool.false_and]
     go_wp2_with fail
     go_ret
     exact ⟨by rw [HR.out]; first | rfl | (simp; done) | (simp; omega), HB0.out⟩
def rtc (q n g rH rD : Nat) (size out : Int) (aL : Option Addr) (nL cL : Nat) (x y a gg : Int) : Array Value :=
 #[.int .i64 q, .int .i64 size, .slice aL nL cL, .int .i64 out, .int .i64 (n : Int), .int .i64 q, .int .i64 (n : Int), .int .i64 1, .int .i64 rH, .int .i64 q, .int .i64 ((8 * n : Nat) : Int), .int .i64 (g : Int), .int .i64 rD, .int .i64 x, .int .i64 y, .int .i64 a, .int .i64 gg]
def RTA (w : World) (t q n g rH rD : Nat) (size out : Int) (aL : Option Addr) (nL cL : Nat) (x y a gg : Int) : Prop := w.heap[t]? = some (.cells (rtc q n g rH rD size out aL nL cL x y a gg) 41 (0, 0))
theorem RTA.lt {w : World} {t q n g rH rD : Nat} {size out : Int} {aL : Option Addr} {nL cL : Nat} {x y a gg : Int} (h : RTA w t q n g rH rD size out aL nL cL x y a gg) : t < w.heap.size := (Array.getElem?_eq_some_iff.1 h).1
theorem RTA.below {w w' : World} {t q n g rH rD n0 : Nat} {size out : Int} {aL : Option Addr} {nL cL : Nat} {x y a gg : Int} (h : RTA w t q n g rH rD size out aL nL cL x y a gg) (e : Below n0 w w') (ht : t < n0) : RTA w' t q n g rH rD size out aL nL cL x y a gg := (e.block t ht).trans h
theorem RTA.cell {w : World} {t q n g rH rD : Nat} {size out : Int} {aL : Option Addr} {nL cL : Nat} {x y a gg : Int} (h : RTA w t q n g rH rD size out aL nL cL x y a gg) (j : Nat) {v : Value} (hv : (rtc q n g rH rD size out aL nL cL x y a gg)[j]? = some v) : w.cell? ⟨t, j, none⟩ = some v := by
 unfold RTA at h
 simp [World.cell?, h, hv]
theorem rtnew_any (q n nL cL : Nat) (size out : Int) (aL : Option Addr) (w : World) (hpr : Num.Prime q) (h3 : 3 <= q) (h4 : q <= 2147483647) (hn : n <= 512) :
  Calls Tryz.prog 8 #[.int .i64 q, .agg #[.int .i64 size, .slice aL nL cL], .int .i64 out, .int .i64 (n : Int)] w fun e w' =>
   ∃ t g rH rD, e = .returned (.pointer (some ⟨t, 0, none⟩)) /\ RTA w' t q n g rH rD size out aL nL cL 0 0 0 0 /\ w.heap.size <= t /\ Num.GenIs q g /\ RootIs q (n : Int) rH /\ RootIs q ((8 * n : Nat) : Int) rD /\ Below w.heap.size w w' := by
 have HG := hid (fun W => rgen_any q W hpr h3 h4)
 have HH : Hid (∀ W, Calls Tryz.prog 28 #[.int .i64 q, .int .i64 (n : Int), .int .i64 1] W fun e w' => ∃ r : Nat, e = .returned (.agg #[.int .i64 q, .int .i64 (n : Int), .int .i64 1, .int .i64 r]) /\ RootIs q n r /\ Below W.heap.size W w') := fun W => by
  have h0 := rdnew_any q n 1 W hpr h3 h4 (by omega) (by omega) (by omega) (by omega)
  rw [Int.emod_eq_of_lt (by omega) (by omega)] at h0
  exact h0
 obtain ⟨N, hN⟩ := exE (8 * n)
 have HD : Hid (∀ g : Nat, Num.GenIs q g -> ∀ W, Calls Tryz.prog 28 #[.int .i64 q, .int .i64 (N : Int), .int .i64 (g : Int)] W fun e w' => ∃ r : Nat, e = .returned (.agg #[.int .i64 q, .int .i64 (N : Int), .int .i64 (g : Int), .int .i64 r]) /\ RootIs q N r /\ Below W.heap.size W w') := fun g hg W => by
  obtain ⟨g1, g2, _⟩ := Num.genIs_some hpr h3 hg
  have h0 := rdnew_any q N g W hpr h3 h4 (by omega) (by omega) (by omega) (by omega)
  rw [Int.emod_eq_of_lt (by omega) (by omega)] at h0
  exact h0
 have e8 : (8 : Int) * (n : Int) = (N : Int) := by omega
 have w8 : IntKind.i64.wrap (N : Int) = (N : Int) := by rw [IntKind.wrap_i64]; omega
 have HNE := hid hN
 obtain ⟨W0, hW0⟩ := exE (w.alloc (.cells #[.int .i64 size, .slice aL nL cL] 24))
 have hb0 := blA hW0
 have hs0 := haA hW0
 obtain ⟨A, hA⟩ := exE (w.heap.size)
 rw [<- hA] at hs0
 have HB0 := hid hb0
 have HA0 := hid hs0
 clear hb0 hs0 hpr hN
 go_enter Tryz.func8, Tryz.ntmps8
 go_wp2_with fail
 rw [<- hW0, <- hA]
 clear hW0 hA
 go_wp2_with fail
 refine (HG.out W0).mono ?_
 rintro e w' ⟨g, rfl, hg, hw'⟩
 have hw'' := hw'.symm
 subst hw''
 have HGI := hid hg
 clear hw' hg HG
 go_wp2_with fail
 refine (HH.out W0).mono ?_
 rintro e w1 ⟨rH, rfl, hr, hb1⟩
 have HB1 := hid (HB0.out.trans (hb1.mono HB0.out.size))
 have HA1 := hid ((hb1.block A (Array.getElem?_eq_some_iff.1 HA0.out).1).trans HA0.out)
 have HRH := hid hr
 clear hb1 hr HH HB0 HA0
 obtain ⟨W2, hW2⟩ := exE (w1.alloc (.cells #[.int .i64 q, .int .i64 (n : Int), .int .i64 1, .int .i64 rH] 39))
 have hb2 := blA hW2
 have hs2 := haA hW2
 obtain ⟨B, hB⟩ := exE (w1.heap.size)
 rw [<- hB] at hs2
 have HBB2 := hid hs2
 have HB2 := hid (HB1.out.trans (hb2.mono HB1.out.size))
 have HA2 := hid ((hb2.block A (Array.getElem?_eq_some_iff.1 HA1.out).1).trans HA1.out)
 clear hb2 hs2 HB1 HA1
 go_wp2_with fail
 rw [<- hW2, <- hB]
 clear hW2 hB
 refine (HD.out g HGI.out W2).mono ?_
 rintro e w3 ⟨rD, rfl, hr, hb3⟩
 have HB3 := hid (HB2.out.trans (hb3.mono HB2.out.size))
 have HA3 := hid ((hb3.block A (Array.getElem?_eq_some_iff.1 HA2.out).1).trans HA2.out)
 have HBB3 := hid ((hb3.block B (Array.getElem?_eq_some_iff.1 HBB2.out).1).trans HBB2.out)
 have HRD := hid hr
 clear hb3 hr HD HB2 HA2 HBB2
 obtain ⟨W4, hW4⟩ := exE (w3.alloc (.cells #[.int .i64 q, .int .i64 (N : Int), .int .i64 (g : Int), .int .i64 rD] 39))
 have hb4 := blA hW4
 have hs4 := haA hW4
 obtain ⟨D, hD⟩ := exE (w3.heap.size)
 rw [<- hD] at hs4
 have HB4 := hid (HB3.out.trans (hb4.mono HB3.out.size))
 have hA4 := (hb4.block A (Array.getElem?_eq_some_iff.1 HA3.out).1).trans HA3.out
 have hBB4 := (hb4.block B (Array.getElem?_eq_some_iff.1 HBB3.out).1).trans HBB3.out
 have a0 := clA 0 hA4 rfl
 have a1 := clA 1 hA4 rfl
 have b0 := clA 0 hBB4 rfl
 have b1 := clA 1 hBB4 rfl
 have b2 := clA 2 hBB4 rfl
 have b3 := clA 3 hBB4 rfl
 have d0 := clA 0 hs4 rfl
 have d1 := clA 1 hs4 rfl
 have d2 := clA 2 hs4 rfl
 have d3 := clA 3 hs4 rfl
 clear hb4 hs4 hA4 hBB4 HB3 HA3 HBB3
 rw [hD] at d0 d1 d2 d3
 rw [hW4] at a0 a1 b0 b1 b2 b3 d0 d1 d2 d3
 go_wp2_with fail
 rw [<- hW4]
 have hs4 : w3.heap.size + 1 = W4.heap.size := by rw [hW4]; simp
 rw [hs4]
 clear hW4 a0 a1 b0 b1 b2 b3 d0 d1 d2 d3 hs4
 go_ret
 refine ⟨W4.heap.size, g, rH, rD, rfl, ?_, HB4.out.size, HGI.out, HRH.out, by rw [<- HNE.out]; exact HRD.out, HB4.out.alloc HB4.out.size _⟩
 unfold RTA rtc
 rw [<- HNE.out]
 exact heap_alloc_new W4 _
open Go.RowKit
def rcs (p : Nat) (zs : List Int) (n : Nat) (v m t : Int) : Nat -> Int := fun j => psm p (zat zs) (pwz p v j) n * (m * t ^ j % (p : Int)) % (p : Int)
theorem rcs_coefs {p : Nat} (zs : List Int) (n : Nat) (v m t : Int) (j : Nat) (hj : j < n) : (p : Int) ∣ rcs p zs n v m t j - coefs p zs n v m t j := by
 unfold rcs coefs
 have h1 := Dom.ft_congr (p := p) (zat zs) v hj
 have h2 : (p : Int) ∣ psm p (zat zs) (pwz p v j) n - Pol.ps (zat zs) (v ^ j) n := by
  have e1 : (p : Int) ∣ psm p (zat zs) (pwz p v j) n - Pol.ps (zat zs) (pwz p v j) n := Pol.emod_dvd p _
  have e2 : (p : Int) ∣ Pol.ps (zat zs) (pwz p v j) n - Pol.ps (zat zs) (v ^ j) n := Dom.ps_point (zat zs) (Pol.emod_dvd p _) n
  have := Int.dvd_add e1 e2
  rwa [show ∀ a b c : Int, a - b + (b - c) = a - c from fun a b c => by omega] at this
 have h3 := Int.dvd_sub h2 h1
 have h4 := Int.dvd_mul_of_dvd_left (c := m * t ^ j % (p : Int)) h3
 have e1 := Pol.emod_dvd p (psm p (zat zs) (pwz p v j) n * (m * t ^ j % (p : Int)))
 have e2 := Pol.emod_dvd p (Dom.ft p (zat zs) v n j * (m * t ^ j % (p : Int)))
 have := Int.dvd_add (Int.dvd_sub e1 e2) h4
 rwa [show ∀ A B a b c X : Int, A - a * X - (B - b * X) + (a - c - (b - c)) * X = A - B from fun A B a b c X => by grind] at this
theorem rcs_trim {p : Nat} (hp : 0 < p) (zs : List Int) (n : Nat) (v m t : Int) : Pol.trim p (ls (rcs p zs n v m t) n) = Pol.trim p (ls (coefs p zs n v m t) n) := by
 refine Pol.trim_congr hp (fun j => ?_)
 by_cases hj : j < n
 ·have e1 : Pol.cf (ls (rcs p zs n v m t) n) j = rcs p zs n v m t j := by have := ls_at (rcs p zs n v m t) n j hj; rw [zat_cf] at this; exact this
  have e2 : Pol.cf (ls (coefs p zs n v m t) n) j = coefs p zs n v m t j := by have := ls_at (coefs p zs n v m t) n j hj; rw [zat_cf] at this; exact this
  rw [e1, e2]
  exact rcs_coefs zs n v m t j hj
 ·rw [Pol.cf_ge (by rw [ls_len]; omega), Pol.cf_ge (by rw [ls_len]; omega), Int.sub_self]; exact Int.dvd_zero _
theorem mt_succ (p : Nat) (m t : Int) (j : Nat) : m * t ^ j % (p : Int) * t % (p : Int) = m * t ^ (j + 1) % (p : Int) := by
 rw [Int.pow_succ, <- Int.mul_assoc, Int.mul_emod, Int.emod_emod_of_dvd _ (Int.dvd_refl _), <- Int.mul_emod]
theorem rcoef_any (q n cap : Nat) (r s : Int) (a : Option Addr) (zs : List Int) (w : World) (hpr : Num.Prime q) (h3 : 3 <= q) (h4 : q <= 2147483647) (hn0 : 0 < n) (hn : n <= 65536) (hr0 : 0 <= r) (hr1 : r < q) (hs0 : 0 <= s) (hs1 : s < q)
  (hlen : zs.length = n) (hfit : Fits zs) (hrow : RowB w.heap.size w a zs) :
  Calls Tryz.prog 29 #[.agg #[.int .i64 q, .int .i64 n, .int .i64 s, .int .i64 r], .slice a n cap] w fun e w' => ∃ a' c', e = .returned (.slice a' (bk q n r s zs).length c') /\ Lst w'.heap.size w' a' c' (bk q n r s zs) /\ Below w.heap.size w w' := by
 obtain ⟨i0, hi, hz0, hz1, hz2⟩ := info_parts Tryz.infoInt
 have HF := hid hfit
 have HR := hid hrow
 have HPR := hid hpr
 have HBK : Hid (bk q n r s zs = Pol.trim q (ls (rcs q zs n (invn q r) (invn q n) (invn q s)) n)) := (rcs_trim (by omega) zs n _ _ _).symm
 rw [HBK.out]
 have HI1 : Hid (∀ W : World, Calls Tryz.prog 57 #[.int .i64 q, .int .i64 n] W fun e w' => e = .returned (.int .i64 (invn q n : Int)) /\ w' = W) := fun W => rinv_any q n W h3 h4 (by omega) (by omega)
 have HI2 : Hid (∀ W : World, Calls Tryz.prog 57 #[.int .i64 q, .int .i64 r] W fun e w' => e = .returned (.int .i64 (invn q r : Int)) /\ w' = W) := fun W => rinv_any q r W h3 h4 (by omega) (by omega)
 have HI3 : Hid (∀ W : World, Calls Tryz.prog 57 #[.int .i64 q, .int .i64 s] W fun e w' => e = .returned (.int .i64 (invn q s : Int)) /\ w' = W) := fun W => rinv_any q s W h3 h4 (by omega) (by omega)
 have il1 := invn_lt q n h3
 have il2 := invn_lt q r h3
 have il3 := invn_lt q s h3
 clear HBK hfit hrow hpr
 generalize invn q n = M at *
 generalize invn q r = V at *
 generalize invn q s = T at *
 obtain ⟨f, hf⟩ := exE (rcs q zs n V M T)
 have HRB : Hid (∀ j, 0 <= f j /\ f j < q) := fun j => by rw [hf]; exact emod_bounds _ q h3
 have HRCF : Hid (∀ k, psm q (zat zs) (pwz q V k) n * ((M : Int) * (T : Int) ^ k % (q : Int)) % (q : Int) = f k) := fun k => by rw [hf]; rfl
 rw [<- hf]
 clear hf
 go_enter Tryz.func29, Tryz.ntmps29
 go_wp2_with fail
 have HC0 : Hid ((w.alloc (.cells #[.int .i64 q, .int .i64 n, .int .i64 s, .int .i64 r] 39)).cell? ⟨w.heap.size, 0, none⟩ = some (.int .i64 q)) := by unfold Hid; simp
 have HC1 : Hid ((w.alloc (.cells #[.int .i64 q, .int .i64 n, .int .i64 s, .int .i64 r] 39)).cell? ⟨w.heap.size, 1, none⟩ = some (.int .i64 n)) := by unfold Hid; simp
 have HC2 : Hid ((w.alloc (.cells #[.int .i64 q, .int .i64 n, .int .i64 s, .int .i64 r] 39)).cell? ⟨w.heap.size, 2, none⟩ = some (.int .i64 s)) := by unfold Hid; simp
 have HC3 : Hid ((w.alloc (.cells #[.int .i64 q, .int .i64 n, .int .i64 s, .int .i64 r] 39)).cell? ⟨w.heap.size, 3, none⟩ = some (.int .i64 r)) := by unfold Hid; simp
 have HB0 : Hid (Below w.heap.size w (w.alloc (.cells #[.int .i64 q, .int .i64 n, .int .i64 s, .int .i64 r] 39))) := (Below.refl _ _).alloc (Nat.le_refl _) _
 have hs0x : w.heap.size < (w.alloc (.cells #[.int .i64 q, .int .i64 n, .int .i64 s, .int .i64 r] 39)).heap.size := by simp
 refine (HI1.out _).mono ?_
 generalize w.alloc (.cells #[.int .i64 q, .int .i64 n, .int .i64 s, .int .i64 r] 39) = W0 at *
 rintro e W1 ⟨rfl, rfl⟩
 have z0 := HC0.out
 have z1 := HC1.out
 have z2 := HC2.out
 have z3 := HC3.out
 go_wp2_with fail
 refine (HI2.out _).mono ?_
 rintro e W2 ⟨rfl, rfl⟩
 go_wp2_with fail
 refine (HI3.out _).mono ?_
 rintro e W0 ⟨rfl, rfl⟩
 clear z0 z1 z2 z3 HI1 HI2 HI3
 go_wp2_with fail
 go_loopw [5, 9, 10, 11] (fun v sv pv jv wr => ∃ k : Nat, k <= n /\ jv = .int .i64 k /\ sv = .int .i64 (pwz q V k) /\ pv = .int .i64 ((M : Int) * (T : Int) ^ k % (q : Int)) /\ wr.ownsRow W0.heap.size 3 1 v (ls f k).length ((ls f k).map (Value.int .i64)) /\ Below W0.heap.size W0 wr)
  (fun _ _ _ jv _ => n - (intOf jv).toNat)
 case atStart =>
  refine ⟨0, Nat.zero_le _, rfl, ?_, ?_, World.ownsRow_nil _ _ _ _, Below.refl _ _⟩
  ·have : pwz q V 0 = 1 := by unfold pwz; rw [Int.pow_zero]; exact Int.emod_eq_of_lt (by omega) (by omega)
   rw [this]
  ·rw [Int.pow_zero, Int.mul_one, Int.emod_eq_of_lt (by omega) (by omega)]
 case round =>
  obtain ⟨k, hk, rfl, rfl, rfl, hown, hbel⟩ := hrel
  obtain ⟨wo, rfl⟩ := exE (wr)
  have hsz := hbel.size
  have d0 := (hbel.cell (p := ⟨w.heap.size, 0, none⟩) hs0x).trans HC0.out
  have d1 := (hbel.cell (p := ⟨w.heap.size, 1, none⟩) hs0x).trans HC1.out
  by_cases hlt : k < n
  ·have hlt2 : (k : Int) < (n : Int) := by omega
   have HLS := hid (ls_succ f k)
   have HLL := hid (ls_len f k)
   have HRW : Hid (RowB w.heap.size wo a zs) := HR.out.below (HB0.out.trans (hbel.mono (by omega)))
   obtain ⟨st1, st2⟩ := emod_bounds ((V : Int) ^ k) q h3
   rw [show (V : Int) ^ k % (q : Int) = pwz q V k from rfl] at st1 st2
   obtain ⟨pw1, pw2⟩ := emod_bounds ((M : Int) * (T : Int) ^ k) q h3
   have HRC := hid (HRCF.out k)
   have HSV := hid (pwz_succ q V k)
   have HPV := hid (mt_succ q (M : Int) (T : Int) k)
   obtain ⟨rb1, rb2⟩ := HRB.out k
   obtain ⟨sn, hsn⟩ := exE (pwz q V (k + 1))
   obtain ⟨pn, hpn⟩ := exE ((M : Int) * (T : Int) ^ (k + 1) % (q : Int))
   have HSN := hid hsn
   have HPN := hid hpn
   rw [<- hsn] at HSV
   rw [<- hpn] at HPV
   clear hsn hpn
   generalize (M : Int) * (T : Int) ^ k % (q : Int) = pk' at *
   generalize pwz q V k = st at *
   generalize f k = rk at *
   generalize ls f k = lk at *
   go_wp2_with fail
   go_loopw [12, 13, 14] (fun xv sv iv wi => ∃ i m : Nat, i <= n /\ iv = .int .i64 i /\ sv = .int .i64 (psm q (zat zs) st i) /\ xv = .int .i64 (pwz q st i) /\ Hid (wi = wo.drewN m)) (fun _ _ iv _ => n - (intOf iv).toNat)
   case atStart => exact ⟨0, 0, Nat.zero_le _, rfl, by simp [psm, Pol.ps], by
    have : pwz q st 0 = 1 := by unfold pwz; rw [Int.pow_zero]; exact Int.emod_eq_of_lt (by omega) (by omega)
    rw [this], rfl⟩
   case round =>
    obtain ⟨i, m, hii, rfl, rfl, rfl, HW⟩ := hrel
    have d0' : wr.cell? ⟨w.heap.size, 0, none⟩ = some (.int .i64 q) := by rw [HW.out]; exact d0
    have d1' : wr.cell? ⟨w.heap.size, 1, none⟩ = some (.int .i64 n) := by rw [HW.out]; exact d1
    obtain ⟨ss1, ss2⟩ := emod_bounds (Pol.ps (zat zs) st i) q h3
    rw [show Pol.ps (zat zs) st i % (q : Int) = psm q (zat zs) st i from rfl] at ss1 ss2
    by_cases hil : i < n
    ·have hil2 : (i : Int) < (n : Int) := by omega
     obtain ⟨bl, ol, rfl, hbl, hcl⟩ := HRW.out i (by omega)
     have hcl' : wr.cell? ⟨bl, ol + i, none⟩ = some (.int .i64 (zat zs i)) := by rw [HW.out]; exact hcl
     clear hcl
     obtain ⟨y1, y2⟩ := HF.out i (by omega)
     have HS := hid (psm_succ q (zat zs) st i)
     have HQ := hid (pwz_succ q st i)
     obtain ⟨hq1, hq2⟩ := emod_bounds (st ^ i) q h3
     rw [show st ^ i % (q : Int) = pwz q st i from rfl] at hq1 hq2
     obtain ⟨hm1, hm2⟩ := emod_bounds (zat zs i * pwz q st i) q h3
     have HM1 := hid (fun W : World => rmul_any q (zat zs i) (pwz q st i) W h3 h4 y1 y2 (by omega) (by omega))
     have HM2 := hid (fun W : World => rmul_any q (pwz q st i) st W h3 h4 (by omega) (by omega) (by omega) (by omega))
     generalize zat zs i * pwz q st i % (q : Int) = yq at *
     generalize zat zs i = y at *
     generalize pwz q st i * st % (q : Int) = qx at *
     generalize pwz q st i = qk at *
     generalize psm q (zat zs) st i = sk at *
     go_wp2_with fail
     go_quiet (first
      | (go_at_call 58; exact Calls.quiet_of_same (HM1.out _)))
     have HW2 : Hid (wr.drewN nq = wo.drewN (m + nq)) := by unfold Hid; rw [HW.out, World.drewN_drewN]
     have d2 : (wr.drewN nq).cell? ⟨w.heap.size, 0, none⟩ = some (.int .i64 q) := d0'
     clear d0' d1' hcl'
     generalize wr.drewN nq = X at *
     go_wp2_with fail
     refine (HM2.out _).mono ?_
     rintro e w1 ⟨rfl, rfl⟩
     go_wp2_with fail
     go_roundw
     case rel => exact ⟨i + 1, m + nq, by omega, by go_num, by rw [<- HS.out], by rw [<- HQ.out], HW2⟩
     case measure => simp [intOf]; omega
    ·have hil2 : ¬ (i : Int) < (n : Int) := by omega
     obtain rfl : i = n := by omega
     have hown' : wr.ownsRow W0.heap.size 3 1 u5 lk.length (lk.map (Value.int .i64)) := by rw [HW.out]; exact hown
     have hbel' : Below W0.heap.size W0 wr := by rw [HW.out]; exact below_drewN hbel m
     have hsz' := hbel'.size
     clear hown hbel d0 d1
     have HMC := hid (rmul_any q (psm q (zat zs) st i) pk' wr h3 h4 (by omega) (by omega) (by omega) (by omega))
     rw [HRC.out] at HMC
     generalize psm q (zat zs) st i = ps' at *
     have HMS : Hid (∀ W : World, Calls Tryz.prog 58 #[.int .i64 q, .int .i64 st, .int .i64 V] W fun e w' => e = .returned (.int .i64 sn) /\ w' = W) := fun W => by rw [<- HSV.out]; exact rmul_any q st V W h3 h4 (by omega) (by omega) (by omega) (by omega)
     have HMP : Hid (∀ W : World, Calls Tryz.prog 58 #[.int .i64 q, .int .i64 pk', .int .i64 T] W fun e w' => e = .returned (.int .i64 pn) /\ w' = W) := fun W => by rw [<- HPV.out]; exact rmul_any q pk' T W h3 h4 (by omega) (by omega) (by omega) (by omega)
     go_wp2_with fail
     refine HMC.out.mono ?_
     rintro e w1 ⟨rfl, rfl⟩
     go_wp2_with (at_builtin; refine wpList_append_own _ rfl _ _ 26 rfl W0.heap.size 3 i0 (.int .i64 0) 1 8 Tryz.underlying26 hi hz0 hz1 hz2 rfl (by decide) _ _ _ rfl (hown'.alloc _) ⟨w1.heap.size, 0, none⟩ 1 1 [.int .i64 rk] rfl rfl ?c1 ?c2 ?c3 ?c4 ?c5 ?_)
     case c1 =>
      intro j u hj
      match j, hj with
      | 0, hj => simp at hj; subst hj; simp [Addr.add]
     case c2 => intro u hu; simp at hu; subst hu; rfl
     case c3 => have := HLL.out; unfold maxLen; omega
     case c4 => have := HLL.out; omega
     case c5 => simp; omega
     intro v' w5 hown2 hgrow _
     have hown3 := owns_succ hown2
     have HB : Hid (Below W0.heap.size W0 w5) := (hbel'.alloc hsz' _).grown hgrow (by simp; omega) (fun k hk => (hown'.lt k hk).1)
     have HO := hid hown3
     have f0 := (HB.out.cell (p := ⟨w.heap.size, 0, none⟩) hs0x).trans HC0.out
     clear hown2 hown3 hgrow hown' hbel' d0' d1'
     go_wp2_with fail
     refine (HMS.out _).mono ?_
     rintro e w6 ⟨rfl, rfl⟩
     go_wp2_with fail
     refine (HMP.out _).mono ?_
     rintro e w7 ⟨rfl, rfl⟩
     go_wp2_with fail
     go_roundw
     case rel => exact ⟨k + 1, by omega, by go_num, by rw [HSN.out], by rw [HPN.out], by rw [HLS.out]; exact HO.out, HB.out⟩
     case measure => simp [intOf]; omega
  ·have hlt2 : ¬ (k : Int) < (n : Int) := by omega
   obtain rfl : k = n := by omega
   have hll := ls_len f k
   obtain ⟨a', c', rfl, hl⟩ := lst_of_owns hown
   have HT := hid (rtrim_any q c' a' (ls f k) wo h3 h4 (by rw [hll]; omega) (fun j hj => by rw [hll] at hj; rw [ls_at _ _ _ hj]; have := HRB.out j; omega) hl)
   have HBW : Hid (Below w.heap.size w wo) := HB0.out.trans (hbel.mono (by omega))
   rw [hll] at HT
   rw [hll]
   clear hown hl hbel hll
   go_wp2_with fail
   refine HT.out.mono ?_
   rintro e w2 ⟨a2, c2, rfl, hl2, hb2⟩
   have HE : Hid (Lst w2.heap.size w2 a2 c2 (Pol.trim q (ls f k)) /\ Below w.heap.size w w2) := ⟨hl2, HBW.out.trans (hb2.mono HBW.out.size)⟩
   clear hl2 hb2
   go_wp2_with fail
   go_ret
   exact ⟨a2, c2, rfl, HE.out⟩
theorem rcolumn_any (t q n g rH rD nL cL cR j m : Nat) (size out x y a gg : Int) (aL aR : Option Addr) (rows : List (List Int)) (w : World) (hpr : Num.Prime q) (h3 : 3 <= q) (h4 : q <= 2147483647) (hT : RTA w t q n g rH rD size out aL nL cL x y a gg) (hn0 : 0 < n) (hn : n <= 512) (hrH : rH < q) (hrD : rD < q) (hg : g < q)
  (hrl : rows.length = n) (hw : ∀ k, k < n -> (rat rows k).length = m) (hj : j < m) (hF : FitsR rows) (hL : LstR w.heap.size w aR cR rows) :
  Calls Tryz.prog 11 #[.pointer (some ⟨t, 0, none⟩), .slice aR n cR, .int .i64 (j : Int)] w fun e w' => ∃ (G N : Nat) (F : Nat -> Value),
   e = .returned (.slice (some ⟨G, 0, none⟩) (8 * n) N) /\ w.heap.size <= G /\ w'.rowIs G 3 N F /\ 8 * n <= N /\ (∀ i, i < 8 * n -> F i = .int .i64 (cvz q n rH rD g rows i j)) /\ Below w.heap.size w w' := by
 obtain ⟨i0, hi, hz0, hz1, hz2⟩ := info_parts Tryz.infoInt
 have hm : m <= 17592186044000 := by have := (hF 0 (by omega)).2; rw [hw 0 hn0] at this; exact this
 obtain ⟨f, hf⟩ : ∃ f : Nat -> Int, f = fun i => zat (rat rows i) j := ⟨_, rfl⟩
 have hcl : colz rows j = ls f n := by rw [hf, <- hrl]; exact colz_ls rows j
 have HCF : Hid (∀ W v, v = Value.slice none 0 0 ∨ True -> W.ownsRow w.heap.size 3 1 v (ls f n).length ((ls f n).map (Value.int .i64)) -> ∃ aa ca, v = .slice aa n ca /\ Calls Tryz.prog 29 #[.agg #[.int .i64 q, .int .i64 (n : Int), .int .i64 1, .int .i64 rH], .slice aa n ca] W fun e w' => ∃ a' c', e = .returned (.slice a' (bk q n rH 1 (ls f n)).length c') /\ Lst w'.heap.size w' a' c' (bk q n rH 1 (ls f n)) /\ Below W.heap.size W w') := fun W v _ ho => by
  obtain ⟨aa, ca, rfl, hrow⟩ := rowB_of_owns ho
  refine ⟨aa, ca, by rw [ls_len], ?_⟩
  exact rcoef_any q n ca rH 1 aa (ls f n) W hpr h3 h4 hn0 (by omega) (by omega) (by omega) (by omega) (by omega) (ls_len _ _) (fun i hi => by
   rw [ls_len] at hi
   rw [ls_at _ _ _ hi, hf]
   exact (hF i (by omega)).1.all j) hrow
 have hbkb := (bk_can (p := q) (by omega) n rH 1 (ls f n)).elem
 have hbkl : (bk q n rH 1 (ls f n)).length <= n := bk_len _ _ _ _ _
 have HVA : Hid (∀ W aa ca, Lst W.heap.size W aa ca (bk q n rH 1 (ls f n)) -> Calls Tryz.prog 30 #[.agg #[.int .i64 q, .int .i64 ((8 * n : Nat) : Int), .int .i64 (g : Int), .int .i64 rD], .slice aa (bk q n rH 1 (ls f n)).length ca] W fun e w' => ∃ (G N : Nat) (F : Nat -> Value), e = .returned (.slice (some ⟨G, 0, none⟩) (8 * n) N) /\ W.heap.size <= G /\ w'.rowIs G 3 N F /\ 8 * n <= N /\ (∀ i, i < 8 * n -> F i = .int .i64 (cvz q n rH rD g rows i j)) /\ Below W.heap.size W w') := fun W aa ca hl => by
  have h0 := rvalues_any q (8 * n) ca rD g aa (bk q n rH 1 (ls f n)) W h3 h4 (by omega) (by omega) (by omega) (by omega) (by omega) (by omega) (by omega) (fun i hi => by
   have := hbkb i hi
   rw [show zat (bk q n rH 1 (ls f n)) i = (bk q n rH 1 (ls f n)).getD i 0 from by simp [zat]]
   omega) hl.row
  unfold cvz
  rw [hcl]
  exact h0
 have HBL := hid hbkl
 obtain ⟨N8, hN8⟩ := exE (8 * n)
 obtain ⟨c0, hc0⟩ : ∃ c0 : Nat -> Int, c0 = fun i => cvz q n rH rD g rows i j := ⟨_, rfl⟩
 have HC0 : Hid (∀ i, c0 i = cvz q n rH rD g rows i j) := fun i => by rw [hc0]
 simp only [<- HC0.out, <- hN8] at HVA ⊢
 generalize bk q n rH 1 (ls f n) = bz at *
 have HRC : Hid (∀ k, k < n -> ∀ W, Below w.heap.size w W -> ∃ g2 o2 g5 o5 ck lk, aR = some ⟨g2, o2, none⟩ /\ W.cell? ⟨g2, o2 + k, none⟩ = some (.slice (some ⟨g5, o5, none⟩) lk ck) /\ W.cell? ⟨g5, o5 + j, none⟩ = some (.int .i64 (f k)) /\ (j : Int) < (lk : Int)) := fun k hk W hW => by
  obtain ⟨g2, o2, ak, ck, had, hg2, hc2, hrl2⟩ := hL.row k (by omega)
  obtain ⟨g5, o5, hak, hg5, hc5⟩ := hrl2.row j (by rw [hw k hk]; exact hj)
  subst hak
  refine ⟨g2, o2, g5, o5, ck, _, had, (hW.cell (p := ⟨g2, o2 + k, none⟩) hg2).trans hc2, ?_, by rw [hw k hk]; omega⟩
  rw [hf]
  exact (hW.cell (p := ⟨g5, o5 + j, none⟩) hg5).trans hc5
 have HTT : Hid (∀ W, Below w.heap.size w W -> RTA W t q n g rH rD size out aL nL cL x y a gg) := fun W hW => hT.below hW hT.lt
 have hjm : j <= 17592186044000 := by omega
 have HN8 := hid hN8
 clear hw hF hL hT hf hcl hc0 hbkb hbkl hrl hj hm hN8
 go_enter Tryz.func11, Tryz.ntmps11
 go_wp2_with fail
 go_loopw [7, 8] (fun lv iv wr => ∃ k : Nat, k <= n /\ iv = .int .i64 k /\ Hid (wr.ownsRow w.heap.size 3 1 lv (ls f k).length ((ls f k).map (Value.int .i64))) /\ Hid (Below w.heap.size w wr)) (fun _ iv _ => n - (intOf iv).toNat)
 case atStart => exact ⟨0, Nat.zero_le _, rfl, World.ownsRow_nil _ _ _ _, Below.refl _ _⟩
 case round =>
  obtain ⟨k, hk, rfl, HO, HB⟩ := hrel
  by_cases hlt : k < n
  ·have hlt2 : (k : Int) < (n : Int) := by omega
   have his : IntKind.i64.wrap ((k : Int) + 1) = (k : Int) + 1 := by rw [IntKind.wrap_i64]; omega
   obtain ⟨g2, o2, g5, o5, ck, lk, rfl, k1, k2, hjl⟩ := HRC.out k hlt wr HB.out
   have hown' := HO.out
   have hsz' := HB.out.size
   have HLL : Hid ((ls f k).length <= 512) := by unfold Hid; rw [ls_len]; omega
   have HLS : Hid (ls f (k + 1) = ls f k ++ [f k]) := ls_succ f k
   generalize f k = fk at *
   go_wp2_with (at_builtin; refine wpList_append_own _ rfl _ _ 26 rfl w.heap.size 3 i0 (.int .i64 0) 1 8 Tryz.underlying26 hi hz0 hz1 hz2 rfl (by decide) _ _ _ rfl (hown'.alloc _) ⟨wr.heap.size, 0, none⟩ 1 1 [.int .i64 fk] rfl rfl ?c1 ?c2 ?c3 ?c4 ?c5 ?_)
   case c1 =>
    intro j u hj
    match j, hj with
    | 0, hj => simp at hj; subst hj; simp [Addr.add]
   case c2 => intro u hu; simp at hu; subst hu; rfl
   case c3 => have := HLL.out; unfold maxLen; omega
   case c4 => have := HLL.out; omega
   case c5 => simp; omega
   intro v' w5 hown2 hgrow _
   have hown3 := owns_succ hown2
   have HB5 : Hid (Below w.heap.size w w5) := (HB.out.alloc hsz' _).grown hgrow (by simp; omega) (fun k hk => (hown'.lt k hk).1)
   have HO5 : Hid (w5.ownsRow w.heap.size 3 1 v' (ls f (k + 1)).length ((ls f (k + 1)).map (Value.int .i64))) := by unfold Hid; rw [HLS.out]; exact hown3
   clear hown2 hown3 hgrow hown'
   go_wp2_with fail
   exact ⟨⟨k + 1, by omega, by simp, HO5, HB5⟩, by simp only [intOf, Int.toNat_natCast]; omega⟩
  ·obtain rfl : k = n := by omega
   have hlt2 : ¬ (k : Int) < (k : Int) := by omega
   have hT6 := HTT.out wr HB.out
   have t5 : wr.cell? ⟨t, 5, none⟩ = some (.int .i64 q) := hT6.cell 5 rfl
   have t6 : wr.cell? ⟨t, 6, none⟩ = some (.int .i64 (k : Int)) := hT6.cell 6 rfl
   have t7 : wr.cell? ⟨t, 7, none⟩ = some (.int .i64 1) := hT6.cell 7 rfl
   have t8 : wr.cell? ⟨t, 8, none⟩ = some (.int .i64 rH) := hT6.cell 8 rfl
   obtain ⟨aa, ca, rfl, hCF⟩ := HCF.out wr _ (.inr trivial) HO.out
   have HCF' := hid hCF
   clear hCF hT6
   go_wp2_with fail
   refine HCF'.out.mono ?_
   rintro e w6 ⟨a6, c6, rfl, hl6, hb6⟩
   have HB6 := hid (HB.out.trans (hb6.mono HB.out.size))
   have HL6 := hid hl6
   have hT7 := HTT.out w6 HB6.out
   have t9 : w6.cell? ⟨t, 9, none⟩ = some (.int .i64 q) := hT7.cell 9 rfl
   have t10 : w6.cell? ⟨t, 10, none⟩ = some (.int .i64 ((8 * k : Nat) : Int)) := hT7.cell 10 rfl
   have t11 : w6.cell? ⟨t, 11, none⟩ = some (.int .i64 (g : Int)) := hT7.cell 11 rfl
   have t12 : w6.cell? ⟨t, 12, none⟩ = some (.int .i64 rD) := hT7.cell 12 rfl
   rw [<- HN8.out] at t10
   obtain ⟨nb, hnb⟩ := exE (bz.length)
   have HV6 := hid (HVA.out w6 a6 c6 hl6)
   rw [<- hnb] at HV6 ⊢
   clear hl6 hb6 hT7 HCF' t5 t6 t7 t8 hnb
   go_wp2_with fail
   refine HV6.out.mono ?_
   rintro e w7 ⟨G, N, F, rfl, hG, hrow, hN, hFi, hb7⟩
   have HE : Hid (w.heap.size <= G /\ w7.rowIs G 3 N F /\ N8 <= N /\ (∀ i, i < N8 -> F i = .int .i64 (c0 i)) /\ Below w.heap.size w w7) := ⟨Nat.le_trans HB6.out.size hG, hrow, hN, hFi, HB6.out.trans (hb7.mono HB6.out.size)⟩
   clear hG hrow hN hFi hb7
   go_wp2_with fail
   go_ret
   exact ⟨G, N, F, rfl, HE.out⟩
def grR (v : Nat -> Nat -> Int) (N j i : Nat) : List (List Int) := (List.range N).map fun x => ls (v x) (if x < i then j + 1 else j)
theorem grR_len (v : Nat -> Nat -> Int) (N j i : Nat) : (grR v N j i).length = N := by simp [grR]
theorem grR_rat (v : Nat -> Nat -> Int) {N j i x : Nat} (h : x < N) : rat (grR v N j i) x = ls (v x) (if x < i then j + 1 else j) := by simp [grR, rat, h]
theorem grR_end (v : Nat -> Nat -> Int) (N j : Nat) : grR v N j N = grR v N (j + 1) 0 := by
 unfold grR
 apply List.map_congr_left
 intro x hx
 rw [if_pos (List.mem_range.1 hx), if_neg (by omega)]
theorem grR_all (v : Nat -> Nat -> Int) (N m : Nat) : grR v N m 0 = spT v N m := by
 unfold grR spT
 apply List.map_congr_left
 intro x hx
 rw [if_neg (by omega)]
theorem grR_put (v : Nat -> Nat -> Int) {N j i : Nat} (hi : i < N) : (grR v N j i).set i (rat (grR v N j i) i ++ [v i j]) = grR v N j (i + 1) := by
 rw [grR_rat v hi, if_neg (by omega), <- ls_succ]
 unfold grR
 apply List.ext_getElem
 ·simp
 ·intro x h1 h2
  simp only [List.length_set, List.length_map, List.length_range] at h1
  rw [List.getElem_set]
  by_cases e : i = x
  ·subst e; simp
  ·rw [if_neg e]
   simp only [List.getElem_map, List.getElem_range]
   by_cases c : x < i
   ·rw [if_pos c, if_pos (by omega)]
   ·rw [if_neg c, if_neg (by omega)]
structure GrT (base G N A : Nat) (R : List (List Int)) (V : Nat -> Value) (w : World) : Prop where
 len : R.length = N
 lo : base <= G
 lt : G < w.heap.size
 soft : ∀ j, w.frozen? ⟨G, j, none⟩ = false
 ne : A ≠ G
 out : ∀ i, i < N -> w.cell? ⟨G, i, none⟩ = some (V i)
 own : ∀ i, i < N -> w.ownsRow base 3 1 (V i) (rat R i).length ((rat R i).map (Value.int .i64))
 off : ∀ i, i < N -> (V i).ownBlock ≠ some G /\ (V i).ownBlock ≠ some A
 inj : ∀ i k, i < N -> k < N -> i ≠ k -> ∀ b, (V i).ownBlock = some b -> (V k).ownBlock ≠ some b
theorem GrT.below {base G N A A' : Nat} {R : List (List Int)} {V : Nat -> Value} {w w' : World} (h : GrT base G N A R V w) (e : Below w.heap.size w w') (hA : A' = A ∨ w.heap.size <= A') : GrT base G N A' R V w' := by
 have hb := e.block G h.lt
 refine ⟨h.len, h.lo, Nat.lt_of_lt_of_le h.lt e.size, fun j => (World.frozen?_of_block (w := w) (a := ⟨G, j, none⟩) hb).trans (h.soft j), ?_, fun i hi => (e.cell (p := ⟨G, i, none⟩) h.lt).trans (h.out i hi), fun i hi => (h.own i hi).kept (gb_of_below e) ?_, fun i hi => ⟨(h.off i hi).1, ?_⟩, h.inj⟩
 ·rcases hA with rfl | hA
  ·exact h.ne
  ·have := h.lt; omega
 ·cases (V i).ownBlock with
  | none => exact .inl rfl
  | some k => exact .inr (by simp)
 ·rcases hA with rfl | hA
  ·exact (h.off i hi).2
  ·intro e2
   have := ((h.own i hi).lt _ e2).2
   omega
theorem GrT.lst {base G N A : Nat} {R : List (List Int)} {V : Nat -> Value} {w : World} (h : GrT base G N A R V w) : LstR w.heap.size w (some ⟨G, 0, none⟩) N R := by
 refine ⟨fun k hk => ?_, by rw [h.len]; exact Nat.le_refl _, fun e => by cases e⟩
 have hk' : k < N := by rw [<- h.len]; exact hk
 obtain ⟨a, c, hv, hl⟩ := lst_of_owns (h.own k hk')
 exact ⟨G, 0, a, c, rfl, h.lt, by rw [Nat.zero_add, <- hv]; exact h.out k hk', hl⟩
theorem GrT.more {base G N A : Nat} {R : List (List Int)} {V : Nat -> Value} {w w1 w2 : World} {i : Nat} {x : Int} {v' : Value} (h : GrT base G N A R V w) (hi : i < N) (e1 : Below w.heap.size w w1) (hA : A < w1.heap.size)
  (hown : w2.ownsRow base 3 1 v' (rat R i ++ [x]).length ((rat R i ++ [x]).map (Value.int .i64))) (hgr : w1.grownBy w2 (V i).ownBlock) (hat : v'.ownBlock = (V i).ownBlock ∨ v'.ownBlock = some w1.heap.size) :
  GrT base G N A (R.set i (rat R i ++ [x])) (fun k => if k = i then v' else V k) (w2.setCell ⟨G, i, none⟩ v') /\ (w2.setCell ⟨G, i, none⟩ v').heap[A]? = w1.heap[A]? := by
 have h1 := h.below e1 (.inl rfl)
 have hiR : i < R.length := by rw [h.len]; exact hi
 have hbG : w2.heap[G]? = w1.heap[G]? := hgr.block G h1.lt (fun e => (h1.off i hi).1 e.symm)
 have hG2 : G < w2.heap.size := Nat.lt_of_lt_of_le h1.lt hgr.size
 have hc2 : ∀ k, k < N -> w2.cell? ⟨G, k, none⟩ = some (V k) := fun k hk => (World.cell?_of_block (w := w1) (a := ⟨G, k, none⟩) hbG).trans (h1.out k hk)
 have hvG : v'.ownBlock ≠ some G /\ v'.ownBlock ≠ some A := by
  rcases hat with e | e
  ·rw [e]; exact h1.off i hi
  ·rw [e]
   have := h1.lt
   exact ⟨by simp; omega, by simp; omega⟩
 have hvk : ∀ k, k < N -> k ≠ i -> ∀ b, v'.ownBlock = some b -> (V k).ownBlock ≠ some b := fun k hk hne b hb => by
  rcases hat with e | e
  ·exact h1.inj i k hi hk (fun e => hne e.symm) b (e.symm.trans hb)
  ·intro e3
   have := ((h1.own k hk).lt _ e3).2
   rw [e] at hb
   injection hb with hb
   omega
 refine ⟨⟨by rw [List.length_set]; exact h.len, h.lo, by simp [World.setCell]; exact hG2, fun j => ?_, h.ne, fun k hk => ?_, fun k hk => ?_, fun k hk => ?_, fun j k hj hk hne b => ?_⟩, ?_⟩
 ·rw [World.frozen?_setCell]
  exact (World.frozen?_of_block (w := w1) (a := ⟨G, j, none⟩) hbG).trans (h1.soft j)
 ·by_cases e : k = i
  ·subst e
   rw [if_pos rfl]
   exact World.cell?_setCell_same _ _ _ (hc2 k hk)
  ·rw [if_neg e]
   exact (World.cell?_setCell_other _ _ _ _ (by intro e1; injection e1 with _ h2 _; omega)).trans (hc2 k hk)
 ·rw [rat_set hiR]
  by_cases e : k = i
  ·subst e
   simp only [if_pos]
   exact ownsRow_setCell_other hown hvG.1 v'
  ·simp only [if_neg e]
   refine ownsRow_setCell_other ((h1.own k hk).kept hgr ?_) (h1.off k hk).1 v'
   cases hV : (V k).ownBlock with
   | none => exact .inl rfl
   | some b => exact .inr (fun e2 => h1.inj k i hk hi e b hV e2.symm)
 ·by_cases e : k = i
  ·simp only [if_pos e]; exact hvG
  ·simp only [if_neg e]; exact h1.off k hk
 ·by_cases e : j = i
  ·simp only [if_pos e]
   rw [if_neg (by omega)]
   exact hvk k hk (by omega) b
  ·simp only [if_neg e]
   by_cases e2 : k = i
   ·simp only [if_pos e2]
    intro hb hb2
    exact hvk j hj e b hb2 hb
   ·simp only [if_neg e2]
    exact h1.inj j k hj hk hne b
 ·rw [Below.heap_setCell _ _ _ _ h.ne]
  exact hgr.block A hA (fun e => (h1.off i hi).2 e.symm)
theorem grT_start {base N A : Nat} {w : World} {v : Nat -> Nat -> Int} {vs : List Value} (hown : w.ownsRow base 26 1 (.slice (some ⟨base, 0, none⟩) N N) N vs) (hvs : vs = (madeCells #[.slice none 0 0] N).toList) (hA : base < A) : GrT base base N A (grR v N 0 0) (fun _ => .slice none 0 0) w := by
 have hlt := (hown.lt base rfl).2
 refine ⟨grR_len _ _ _ _, Nat.le_refl _, hlt, fun j => ?_, by omega, fun i hi => ?_, fun i hi => ?_, fun i hi => ⟨by simp [Value.ownBlock], by simp [Value.ownBlock]⟩, fun i k _ _ _ b hb => by simp [Value.ownBlock] at hb⟩
 ·rcases hown.2 with ⟨e, _⟩ | ⟨g', cp', cur, e1, _, hgg, _⟩
  ·cases e
  ·injection e1 with e1 _ e3
   injection e1 with e1
   injection e1 with e1
   subst e1
   simp [World.frozen?, hgg]
 ·have := hown.cellAt i (by omega)
  rw [this, hvs]
  simp [madeCells, hi, Nat.mod_one]
 ·rw [grR_rat v hi, if_neg (by omega)]
  exact World.ownsRow_nil _ _ _ _
theorem rwide_any (t q n g rH rD nL cL cR m : Nat) (size out x y a gg : Int) (aL aR : Option Addr) (rows : List (List Int)) (w : World) (hpr : Num.Prime q) (h3 : 3 <= q) (h4 : q <= 2147483647) (hT : RTA w t q n g rH rD size out aL nL cL x y a gg) (hn0 : 0 < n) (hn : n <= 512) (hrH : rH < q) (hrD : rD < q) (hg : g < q)
  (hrl : rows.length = n) (hw : ∀ k, k < n -> (rat rows k).length = m) (hm : m <= 1000) (hF : FitsR rows) (hL : LstR w.heap.size w aR cR rows) :
  Calls Tryz.prog 9 #[.pointer (some ⟨t, 0, none⟩), .slice aR n cR] w fun e w' => ∃ (G : Nat),
   e = .returned (.slice (some ⟨G, 0, none⟩) (8 * n) (8 * n)) /\ w.heap.size <= G /\ LstR w'.heap.size w' (some ⟨G, 0, none⟩) (8 * n) (spT (cvz q n rH rD g rows) (8 * n) m) /\ Below w.heap.size w w' := by
 obtain ⟨i0, hi, hz0, hz1, hz2⟩ := info_parts (show (Tryz.prog.info? 26).map (fun i => (i.zero, i.size, i.bytes)) = some (some (.slice none 0 0), 1, 24) by kernel_rfl)
 obtain ⟨j0, hj, hy0, hy1, hy2⟩ := info_parts Tryz.infoInt
 have hmx : Tryz.prog.follows .mixedOrders = true := by kernel_rfl
 have HCO : Hid (∀ j, j < m -> ∀ W, Below w.heap.size w W -> Calls Tryz.prog 11 #[.pointer (some ⟨t, 0, none⟩), .slice aR n cR, .int .i64 (j : Int)] W fun e w' => ∃ (G N : Nat) (F : Nat -> Value),
   e = .returned (.slice (some ⟨G, 0, none⟩) (8 * n) N) /\ W.heap.size <= G /\ w'.rowIs G 3 N F /\ 8 * n <= N /\ (∀ i, i < 8 * n -> F i = .int .i64 (cvz q n rH rD g rows i j)) /\ Below W.heap.size W w') := fun j hj W hW => rcolumn_any t q n g rH rD nL cL cR j m size out x y a gg aL aR rows W hpr h3 h4 (hT.below hW hT.lt) hn0 hn hrH hrD hg hrl hw hj hF ((hL.below hW).mono hW.size)
 have HR0 : Hid (∀ W, Below w.heap.size w W -> ∃ b o ak ck, aR = some ⟨b, o, none⟩ /\ W.cell? ⟨b, o, none⟩ = some (.slice ak m ck)) := fun W hW => by
  obtain ⟨b, o, ak, ck, e1, hb, hc, _⟩ := hL.row 0 (by omega)
  rw [hw 0 hn0] at hc
  exact ⟨b, o, ak, ck, e1, (hW.cell (p := ⟨b, o, none⟩) hb).trans hc⟩
 obtain ⟨v, hv⟩ : ∃ v : Nat -> Nat -> Int, v = fun i j => cvz q n rH rD g rows i j := ⟨_, rfl⟩
 have HV : Hid (∀ i j, cvz q n rH rD g rows i j = v i j) := fun i j => by rw [hv]
 have HVF : Hid (spT (cvz q n rH rD g rows) (8 * n) m = spT v (8 * n) m) := by unfold Hid; rw [hv]
 simp only [HV.out] at HCO
 rw [HVF.out]
 have t4 : w.cell? ⟨t, 4, none⟩ = some (.int .i64 (n : Int)) := hT.cell 4 rfl
 have hn8 : (8 : Int) * (n : Int) = ((8 * n : Nat) : Int) := by omega
 have hnw : IntKind.i64.wrap ((8 * n : Nat) : Int) = ((8 * n : Nat) : Int) := by rw [IntKind.wrap_i64]; omega
 obtain ⟨N8, hN8⟩ := exE (8 * n)
 rw [<- hN8] at hn8 hnw
 simp only [<- hN8] at HCO ⊢
 have hN8b : N8 <= 4096 := by omega
 have hn0' : (0 : Int) < (n : Int) := by omega
 clear hN8 HVF HV hv hF hL hT hw hrl hrH hrD hg hpr
 go_enter Tryz.func9, Tryz.ntmps9
 go_wp2_with (refine wpList_make_full _ rfl _ _ _ rfl w.heap.size 26 i0 _ 1 Tryz.underlying25 hi hz0 hz1 .i64 .i64 _ _ N8 rfl rfl rfl rfl (by rw [hz2]; omega) (by unfold maxLen; omega) (by simp) ?_)
 intro w1 hown hgr
 have hb1 : Below w.heap.size w w1 := ⟨hgr.os, hgr.tape, hgr.output, hgr.size, fun k hk => hgr.block k hk (by simp)⟩
 have HI0 : Hid (GrT w.heap.size w.heap.size N8 (w.heap.size + 1) (grR v N8 0 0) (fun _ => .slice none 0 0) w1 /\ Below w.heap.size w w1) := ⟨grT_start hown rfl (by omega), hb1⟩
 clear hown hgr hb1
 obtain ⟨G, hG⟩ := exE (w.heap.size)
 have HGE := hid hG
 have HI1 : Hid (GrT w.heap.size G N8 (w.heap.size + 1) (grR v N8 0 0) (fun _ => .slice none 0 0) w1 /\ Below w.heap.size w w1) := by unfold Hid; rw [hG]; exact HI0.out
 clear HI0
 rw [<- hG]
 clear hG
 go_wp2_with fail
 go_loopw [6] (fun jv wr => ∃ j : Nat, j <= m /\ jv = .int .i64 j /\ Hid (∃ A V, GrT w.heap.size G N8 A (grR v N8 j 0) V wr) /\ Hid (Below w.heap.size w wr)) (fun jv _ => m - (intOf jv).toNat)
 case atStart => exact ⟨0, Nat.zero_le _, rfl, ⟨_, _, HI1.out.1⟩, HI1.out.2⟩
 case round =>
  obtain ⟨j, hjm, rfl, HG, HB⟩ := hrel
  obtain ⟨br, orr, ak, ck, rfl, hc0⟩ := HR0.out wr HB.out
  by_cases hlt : j < m
  ·have hlt2 : (j : Int) < (m : Int) := by omega
   have hjw : IntKind.i64.wrap ((j : Int) + 1) = (j : Int) + 1 := by rw [IntKind.wrap_i64]; omega
   have HC := hid (HCO.out j hlt wr HB.out)
   go_wp2_with fail
   refine HC.out.mono ?_
   rintro e wc ⟨Gc, Nc, F, rfl, hGc, hrow, hNc, hFi, hbc⟩
   have HBc : Hid (Below w.heap.size w wc) := HB.out.trans (hbc.mono HB.out.size)
   obtain ⟨A, V, hGT⟩ := HG.out
   have hGT2 := hGT.below hbc (A' := Gc) (.inr hGc)
   have HG2 : Hid (∃ V, GrT w.heap.size G N8 Gc (grR v N8 j 0) V wc) := ⟨V, hGT2⟩
   obtain ⟨cc, hcc, hcs, hcF⟩ := hrow
   have HCC : Hid (∀ k, k < N8 -> ∀ W : World, W.heap[Gc]? = wc.heap[Gc]? -> W.cell? ⟨Gc, k, none⟩ = some (.int .i64 (v k j))) := fun k hk W hW => by
    have h1 := hcF k (by omega)
    rw [hFi k hk] at h1
    simp [World.cell?, hW, hcc, h1]
   have HGcl : Hid (Gc < wc.heap.size) := (Array.getElem?_eq_some_iff.1 hcc).1
   clear hGT hGT2 hcc hcs hcF hFi hbc hGc HC
   have hNc' : N8 <= Nc := hNc
   clear hNc
   go_wp2_with fail
   go_loopw [8] (fun iv wi => ∃ i : Nat, i <= N8 /\ iv = .int .i64 i /\ Hid (∃ V, GrT w.heap.size G N8 Gc (grR v N8 j i) V wi) /\ Hid (Below w.heap.size w wi) /\ Hid (wi.heap[Gc]? = wc.heap[Gc]?)) (fun iv _ => N8 - (intOf iv).toNat)
   case atStart => exact ⟨0, Nat.zero_le _, rfl, HG2, HBc, (show Hid (wc.heap[Gc]? = wc.heap[Gc]?) from rfl)⟩
   case round =>
    obtain ⟨i, hiN, rfl, HGi, HBi, HEi⟩ := hrel
    by_cases hli : i < N8
    ·have hli2 : (i : Int) < (N8 : Int) := by omega
     have hiw : IntKind.i64.wrap ((i : Int) + 1) = (i : Int) + 1 := by rw [IntKind.wrap_i64]; omega
     obtain ⟨V, hGT⟩ := HGi.out
     have hx := HCC.out i hli wr HEi.out
     obtain ⟨x, hxe⟩ := exE (v i j)
     rw [<- hxe] at hx
     have HPUT : Hid ((grR v N8 j i).set i (rat (grR v N8 j i) i ++ [x]) = grR v N8 j (i + 1)) := by unfold Hid; rw [hxe]; exact grR_put v hli
     have hrl : (rat (grR v N8 j i) i).length = j := by rw [grR_rat v hli, if_neg (by omega), ls_len]
     obtain ⟨av, cv, hVi, _⟩ := lst_of_owns (hGT.own i hli)
     obtain ⟨ln, hln⟩ := exE ((rat (grR v N8 j i) i).length)
     rw [<- hln] at hVi
     have hlnj : ln = j := by rw [hln, hrl]
     have hv0 := hGT.out i hli
     rw [hVi] at hv0
     have hsf := hGT.soft i
     have hC0 : wr.cell? ⟨G, i, none⟩ = some (.slice av ln cv) /\ wr.cell? ⟨Gc, i, none⟩ = some (.int .i64 x) := ⟨hv0, hx⟩
     have HGT := hid hGT
     have HVI := hid hVi
     have HLN := hid hln
     have HLNJ := hid hlnj
     clear hGT hVi hln hlnj hrl hxe HGi
     clear hv0 hx
     go_wp2_with fail
     refine wp_region_S (C := fun W => W.cell? ⟨G, i, none⟩ = some (.slice av ln cv) /\ W.cell? ⟨Gc, i, none⟩ = some (.int .i64 x)) (st := [13]) hmx ?_
     refine wpAnyS_pure (i := 0) (v := .slice (some ⟨G, 0, none⟩) N8 N8) rfl (by kernel_rfl) (by kernel_rfl) (by kernel_rfl) (by kernel_rfl) (fun _ _ _ h => h) (Or.inl ⟨by rfl, fun W _ => by go_simp⟩) (fun _ => hC0) ?_
     refine wpAnyS_pure (i := 1) (v := .int .i64 (i : Int)) rfl (by kernel_rfl) (by kernel_rfl) (by kernel_rfl) (by kernel_rfl) (fun _ _ _ h => h) (Or.inl ⟨by rfl, fun W _ => by go_simp⟩) (fun _ => hC0) ?_
     refine wpAnyS_pure (i := 2) (v := .slice (some ⟨G, 0, none⟩) N8 N8) rfl (by kernel_rfl) (by kernel_rfl) (by kernel_rfl) (by kernel_rfl) (fun _ _ _ h => h) (Or.inl ⟨by rfl, fun W _ => by go_simp⟩) (fun _ => hC0) ?_
     refine wpAnyS_pure (i := 3) (v := .int .i64 (i : Int)) rfl (by kernel_rfl) (by kernel_rfl) (by kernel_rfl) (by kernel_rfl) (fun _ _ _ h => h) (Or.inl ⟨by rfl, fun W _ => by go_simp⟩) (fun _ => hC0) ?_
     refine wpAnyS_pure (i := 4) (v := .pointer (some ⟨G, i, none⟩)) rfl (by kernel_rfl) (by kernel_rfl) (by kernel_rfl) (by kernel_rfl) (fun _ _ _ h => h) (Or.inl ⟨by rfl, fun W _ => by go_simp⟩) (fun _ => hC0) ?_
     refine wpAnyS_take (i := 5) (v := .slice av ln cv) rfl (by kernel_rfl) (by kernel_rfl) (by kernel_rfl) (by kernel_rfl) (by kernel_rfl) (by kernel_rfl) (fun _ _ _ h => h) (Or.inl ⟨by rfl, fun W hC => by (obtain ⟨x0, x1⟩ := hC; go_simp)⟩) hC0 ?_
     refine wpAnyS_pure (i := 6) (v := .slice (some ⟨Gc, 0, none⟩) N8 Nc) rfl (by kernel_rfl) (by kernel_rfl) (by kernel_rfl) (by kernel_rfl) (fun _ _ _ h => h) (Or.inl ⟨by rfl, fun W _ => by go_simp⟩) (fun _ => hC0) ?_
     refine wpAnyS_pure (i := 7) (v := .int .i64 (i : Int)) rfl (by kernel_rfl) (by kernel_rfl) (by kernel_rfl) (by kernel_rfl) (fun _ _ _ h => h) (Or.inl ⟨by rfl, fun W _ => by go_simp⟩) (fun _ => hC0) ?_
     refine wpAnyS_pure (i := 8) (v := .pointer (some ⟨Gc, i, none⟩)) rfl (by kernel_rfl) (by kernel_rfl) (by kernel_rfl) (by kernel_rfl) (fun _ _ _ h => h) (Or.inl ⟨by rfl, fun W _ => by go_simp⟩) (fun _ => hC0) ?_
     refine wpAnyS_take (i := 9) (v := .int .i64 x) rfl (by kernel_rfl) (by kernel_rfl) (by kernel_rfl) (by kernel_rfl) (by kernel_rfl) (by kernel_rfl) (fun _ _ _ h => h) (Or.inl ⟨by rfl, fun W hC => by (obtain ⟨x0, x1⟩ := hC; go_simp)⟩) hC0 ?_
     refine wpAnyS_one (i := 10) (by kernel_rfl) ?_
     refine wpOp_step rfl (fun K' hK' => ?_)
     rw [if_pos (by rfl)]
     go_simp
     obtain ⟨X, hX⟩ := exE ((wr.alloc (.cells #[.int .i64 x] 3)).drew)
     have hbX : Below wr.heap.size wr X := by rw [hX]; exact ((Below.refl _ _).alloc (Nat.le_refl _) _).drew
     have hsX : X.heap.size = wr.heap.size + 1 := by rw [hX]; simp
     have hcX : X.heap[wr.heap.size]? = some (.cells #[.int .i64 x] 3 (0, 0)) := by rw [hX]; exact heap_alloc_new wr _
     have hGl := HGT.out.lt
     have hGcl : Gc < wr.heap.size := lt_of_same HGcl.out HEi.out
     have hC1 : X.cell? ⟨G, i, none⟩ = some (.slice av ln cv) /\ X.cell? ⟨Gc, i, none⟩ = some (.int .i64 x) := ⟨(hbX.cell (p := ⟨G, i, none⟩) hGl).trans hC0.1, (hbX.cell (p := ⟨Gc, i, none⟩) hGcl).trans hC0.2⟩
     rw [<- hX]
     refine hK' _ _ ⟨fun _ => hC1, ?_⟩
     clear hK' K'
     have hGX := HGT.out.below hbX (A' := Gc) (.inl rfl)
     have hownX : X.ownsRow w.heap.size 3 1 (.slice av ln cv) ln ((rat (grR v N8 j i) i).map (Value.int .i64)) := by
      have h9 := hGX.own i hli
      rw [HVI.out, <- HLN.out] at h9
      exact h9
     have hszX : w.heap.size <= X.heap.size := Nat.le_trans HBi.out.size hbX.size
     obtain ⟨v', w2, hrun, hown2, hgrow, _, hat⟩ := run_append_own_at (P := Tryz.prog) X w.heap.size 26 26 3 j0 _ 1 8 Tryz.underlying26 hj hy0 hy1 hy2 rfl (by decide) (.slice av ln cv) ln _ hownX ⟨wr.heap.size, 0, none⟩ 1 1 [.int .i64 x] rfl (by
      intro j' u hj'
      match j', hj' with
      | 0, hj' => simp at hj'; subst hj'; simp [Addr.add, World.cell?, hcX]) (by intro u hu; simp at hu; subst hu; rfl) (by have := HLNJ.out; unfold maxLen; omega) (by have := HLNJ.out; omega) hszX
     have hv' : ∃ a' c', v' = .slice a' (ln + 1) c' := by
      rcases hown2.2 with ⟨_, h0⟩ | ⟨g', cap', cur, e, _⟩
      ·omega
      ·exact ⟨_, _, e⟩
     obtain ⟨a', c', rfl⟩ := hv'
     have hm2 := hGX.more (w1 := X) (x := x) hli (Below.refl _ _) (by omega) (by rw [List.length_append, <- HLN.out]; rw [List.map_append]; exact hown2) (by rw [HVI.out]; exact hgrow) (by rw [HVI.out]; exact hat)
     rw [HPUT.out] at hm2
     have HM2 : Hid ((∃ V, GrT w.heap.size G N8 Gc (grR v N8 j (i + 1)) V (w2.setCell ⟨G, i, none⟩ (.slice a' (ln + 1) c'))) /\ (w2.setCell ⟨G, i, none⟩ (.slice a' (ln + 1) c')).heap[Gc]? = wc.heap[Gc]?) := ⟨⟨_, hm2.1⟩, hm2.2.trans ((hbX.block Gc hGcl).trans HEi.out)⟩
     have hbG : w2.heap[G]? = X.heap[G]? := hgrow.block G (by omega) (fun e => by
      have h9 := (hGX.off i hli).1
      rw [HVI.out] at h9
      exact h9 e.symm)
     have hbc2 : w2.heap[Gc]? = X.heap[Gc]? := hgrow.block Gc (by omega) (fun e => by
      have h9 := (hGX.off i hli).2
      rw [HVI.out] at h9
      exact h9 e.symm)
     have hC2 : w2.cell? ⟨G, i, none⟩ = some (.slice av ln cv) /\ w2.cell? ⟨Gc, i, none⟩ = some (.int .i64 x) := ⟨(World.cell?_of_block (w := X) (a := ⟨G, i, none⟩) hbG).trans hC1.1, (World.cell?_of_block (w := X) (a := ⟨Gc, i, none⟩) hbc2).trans hC1.2⟩
     have hsf2 : w2.frozen? ⟨G, i, none⟩ = false := (World.frozen?_of_block (w := X) (a := ⟨G, i, none⟩) hbG).trans (hGX.soft i)
     have HB2 : Hid (Below w.heap.size w (w2.setCell ⟨G, i, none⟩ (.slice a' (ln + 1) c'))) := by
      have h9 : Below w.heap.size w X := HBi.out.trans (hbX.mono HBi.out.size)
      have h8 : Below w.heap.size w w2 := h9.grown hgrow hszX (fun k hk => (hownX.lt k hk).1)
      exact h8.setCell (p := ⟨G, i, none⟩) hGX.lo _
     clear hm2 hownX hGX hown2 hgrow hat hbG hbc2
     refine wpAnyS_one (i := 11) (by kernel_rfl) ?_
     refine wpOp_step rfl (fun K' hK' => ?_)
     rw [if_pos (by rfl)]
     refine rg_appendU _ _ 26 26 rfl _ _ (.slice a' (ln + 1) c') rfl rfl hrun ?_
     refine hK' _ _ ⟨fun _ => hC2, ?_⟩
     clear hK' K' hrun
     refine wpAnyS_pure (i := 12) (v := .pointer (some ⟨G, i, none⟩)) rfl (by kernel_rfl) (by kernel_rfl) (by kernel_rfl) (by kernel_rfl) (fun _ _ _ h => h) (Or.inl ⟨by rfl, fun W _ => by go_simp⟩) (fun _ => hC2) ?_
     refine wpAnyS_one (i := 13) (by kernel_rfl) ?_
     refine wpOp_step rfl (fun K' hK' => ?_)
     rw [if_pos (by rfl)]
     have hc2 := hC2.1
     go_simp
     refine hK' _ _ ⟨fun h => absurd (h 13 (by simp)) (by decide), ?_⟩
     clear hK' K'
     refine wpAnyS_done (by kernel_rfl) ?_ _
     clear hC0 hC1 hC2 hc2 hsf hsf2 hbX hsX hcX hX hszX
     go_wp2_with fail
     go_roundw
     case rel => exact ⟨i + 1, by omega, by go_num, HM2.out.1, HB2, HM2.out.2⟩
     case measure => simp [intOf]; omega
    ·obtain rfl : i = N8 := by omega
     have hli2 : ¬ (i : Int) < (i : Int) := by omega
     obtain ⟨V, hGT⟩ := HGi.out
     rw [grR_end] at hGT
     have HG5 : Hid (∃ A V, GrT w.heap.size G i A (grR v i (j + 1) 0) V wr) := ⟨_, _, hGT⟩
     clear hGT HGi
     go_wp2_with fail
     go_roundw
     case rel => exact ⟨j + 1, by omega, by go_num, HG5, HBi⟩
     case measure => simp [intOf]; omega
  ·obtain rfl : j = m := by omega
   have hlt2 : ¬ (j : Int) < (j : Int) := by omega
   obtain ⟨A, V, hGT⟩ := HG.out
   rw [grR_all] at hGT
   have HE : Hid (w.heap.size <= G /\ LstR wr.heap.size wr (some ⟨G, 0, none⟩) N8 (spT v N8 j) /\ Below w.heap.size w wr) := ⟨hGT.lo, hGT.lst, HB.out⟩
   clear hGT HG
   go_wp2_with fail
   go_ret
   exact ⟨G, rfl, HE.out⟩
theorem rpoint_any (q i : Nat) (n r s : Int) (w : World) (h3 : 3 <= q) (h4 : q <= 2147483647) (hi : i <= 9223372036854775807) (hr0 : 0 <= r) (hr1 : r < q) (hs0 : 0 <= s) (hs1 : s < q) :
  Calls Tryz.prog 62 #[.agg #[.int .i64 q, .int .i64 n, .int .i64 s, .int .i64 r], .int .i64 (i : Int)] w fun e w' => e = .returned (.int .i64 (Dom.pt q s r i)) /\ Below w.heap.size w w' := by
 have HP : Hid (∀ W, Calls Tryz.prog 93 #[.int .i64 q, .int .i64 r, .int .i64 (i : Int)] W fun e w' => e = .returned (.int .i64 (r ^ i % (q : Int))) /\ w' = W) := fun W => by
  have h := rpow_nat q i r W h3 h4 (by omega) (by omega) hi
  rw [pwm_int q r i h3] at h
  exact h
 obtain ⟨b1, b2⟩ := emod_bounds (r ^ i) q h3
 have HM : Hid (∀ W, Calls Tryz.prog 58 #[.int .i64 q, .int .i64 (r ^ i % (q : Int)), .int .i64 s] W fun e w' => e = .returned (.int .i64 (Dom.pt q s r i)) /\ w' = W) := fun W => by
  have h := rmul_any q (r ^ i % (q : Int)) s W h3 h4 (by omega) (by omega) (by omega) (by omega)
  rw [Int.mul_comm, Dom.pt_mul] at h
  exact h
 generalize r ^ i % (q : Int) = x at *
 generalize Dom.pt q s r i = y at *
 have HB : Hid (Below w.heap.size w (w.alloc (.cells #[.int .i64 q, .int .i64 n, .int .i64 s, .int .i64 r] 39))) := (Below.refl _ _).alloc (Nat.le_refl _) _
 go_enter Tryz.func62, Tryz.ntmps62
 go_wp2_with fail
 refine (HP.out _).mono ?_
 rintro e w1 ⟨rfl, rfl⟩
 go_wp2_with fail
 refine (HM.out _).mono ?_
 rintro e w1 ⟨rfl, rfl⟩
 go_wp2_with fail
 go_ret
 exact ⟨rfl, HB.out⟩
end Go.Proofs.YtjlngcmkgkiplaaGreatDoor
