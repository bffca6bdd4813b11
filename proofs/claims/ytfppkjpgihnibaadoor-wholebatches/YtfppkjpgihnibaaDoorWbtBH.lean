/- Package rules: shown. The law WholeBatches answers true: one word made of any words. -/
import Derived.Test.YtfppkjpgihnibaaDoorWbtBG
import Derived.Test.YtfppkjpgihnibaaDoorDoms
import Derived.Test.YtfppkjpgihnibaaDoorFld
namespace Go.Proofs.YtfppkjpgihnibaaDoor
open Go.RowKit Go.Maps

theorem take_rat {R : List (List Int)} {i : Nat} (h : i < R.length) : R.take (i + 1) = R.take i ++ [rat R i] := by
  rw [List.take_succ_eq_append_getElem h]
  simp [rat, h]
theorem Tbl.more {base G Kn : Nat} {K : Nat → Nat} {w : World} {R : List (List Int)} {r : List Int} {v0 : Value} (h : Tbl base G K w R) (hr : IRow Kn w r) (hb : base ≤ Kn) (hG : Kn ≠ G) (hK : ∀ k, k < R.length → K k ≠ Kn) (hc : w.cell? ⟨G, R.length, none⟩ = some v0) :
    Tbl base G (fun k => if k = R.length then Kn else K k) (w.setCell ⟨G, R.length, none⟩ (.slice (some ⟨Kn, 0, none⟩) r.length r.length)) (R ++ [r]) := by
  have hoth : ∀ g, g ≠ G → (w.setCell ⟨G, R.length, none⟩ (.slice (some ⟨Kn, 0, none⟩) r.length r.length)).heap[g]? = w.heap[g]? := fun g hg => Below.heap_setCell _ _ _ _ hg
  have hrat : ∀ k, k < R.length → rat (R ++ [r]) k = rat R k := fun k hk => by simp [rat, List.getElem?_append_left hk, hk]
  have hlast : rat (R ++ [r]) R.length = r := by simp [rat]
  refine ⟨by simpa using h.lt, fun k hk => ?_, fun k hk => ?_, fun j k hj hk e => ?_, ⟨h.new.1, fun k hk => ?_⟩, fun j => by rw [World.frozen?_setCell]; exact h.soft j⟩
  · rw [List.length_append, List.length_singleton] at hk
    by_cases e : k = R.length
    · subst e
      rw [if_pos rfl, hlast]
      exact World.cell?_setCell_same _ _ _ hc
    · rw [if_neg e, hrat k (by omega), World.cell?_setCell_other _ _ _ _ (by intro e1; injection e1 with _ h2 _; omega)]
      exact h.out k (by omega)
  · rw [List.length_append, List.length_singleton] at hk
    by_cases e : k = R.length
    · subst e
      rw [if_pos rfl, hlast]
      exact hr.block (hoth Kn hG)
    · rw [if_neg e, hrat k (by omega)]
      exact (h.row k (by omega)).block (hoth _ (h.new.2 k (by omega)).2)
  · rw [List.length_append, List.length_singleton] at hj hk
    by_cases e1 : j = R.length
    · by_cases e2 : k = R.length
      · omega
      · rw [if_pos e1, if_neg e2] at e; exact absurd e.symm (hK k (by omega))
    · by_cases e2 : k = R.length
      · rw [if_neg e1, if_pos e2] at e; exact absurd e (hK j (by omega))
      · rw [if_neg e1, if_neg e2] at e; exact h.inj j k (by omega) (by omega) e
  · rw [List.length_append, List.length_singleton] at hk
    by_cases e : k = R.length
    · rw [if_pos e]; exact ⟨hb, hG⟩
    · rw [if_neg e]; exact h.new.2 k (by omega)

end Go.Proofs.YtfppkjpgihnibaaDoor

namespace Go.Proofs.YtfppkjpgihnibaaDoor
open Go.RowKit Go.Maps

set_option maxRecDepth 100000 in
set_option maxHeartbeats 4000000 in
theorem wbatches_no (p n s g : Int) (c1 c2 l1 l2 : Nat) (a1 a2 : Option Addr) (w : World) (hL : Laid w) (hno : ¬ Good p n s) (hp1 : -9223372036854775808 ≤ p) (hp2 : p ≤ 9223372036854775807) (hn1 : -9223372036854775808 ≤ n) (hn2 : n ≤ 9223372036854775807) (hs1 : -9223372036854775808 ≤ s) (hs2 : s ≤ 9223372036854775807) :
    Calls Tryd.prog 3 #[.int .i64 p, .int .i64 n, .int .i64 s, .slice a1 l1 c1, .slice a2 l2 c2, .int .i64 g] w fun e w' => e = .returned (.bool true) ∧ Below w.heap.size w w' := by
  have HL := hid hL
  by_cases hok : okPrime p
  · obtain ⟨q, rfl⟩ := Int.eq_ofNat_of_zero_le (show 0 ≤ p by have := hok.1; omega)
    obtain ⟨hq3, hq4, hqp⟩ := hok
    rw [Int.toNat_natCast] at hqp
    have h3 : 3 ≤ q := by omega
    have h4 : q ≤ 2147483647 := by omega
    have HN := hid (fun w1 => field_yes q w1 h3 h4 hqp)
    obtain ⟨c, hc, hcn, HD⟩ : ∃ c : Int, (c = 2 ∨ c = 3) ∧ FaultIs q n s c ∧ Hid (∀ (b : Nat) (w1 : World), w1.cell? ⟨b, 0, none⟩ = some (.int .i64 q) → Calls Tryd.prog 5 #[.pointer (some ⟨b, 0, none⟩), .int .i64 n, .int .i64 s] w1 fun e w' => e = .returned (.tuple #[.pointer none, .iface 46 (.int .i64 c)]) ∧ w' = w1) := by
      by_cases hsz : SizeOk q n
      · have hsz2 := hsz
        obtain ⟨k, hk, rfl, hd⟩ := hsz
        by_cases hs : s % (q : Int) = 0
        · exact ⟨3, Or.inr rfl, Or.inr (Or.inl ⟨hsz2, hs, rfl⟩), fun b w1 h => dnew_range q b k s w1 h3 h4 h hk hd hs1 hs2 hs⟩
        · exact absurd ⟨q, k, rfl, rfl, hqp, h3, h4, hk, hd, hs⟩ hno
      · exact ⟨2, Or.inl rfl, Or.inl ⟨hsz, rfl⟩, fun b w1 h => dnew_size q b n s w1 h3 h4 h hsz hn1 hn2⟩
    have HF : Hid (∀ w1 : World, Calls Tryd.prog 6 #[.int .i64 q, .int .i64 n, .int .i64 s] w1 fun e w' => e = .returned (.int .i64 c) ∧ w' = w1) := fun w1 =>
      (fault_any q n s w1 h3 h4 hn1 hn2 hs1 hs2).mono fun e w' ⟨c', h1, h2, h5⟩ => by
        obtain rfl : c' = c := by
          rcases h2 with ⟨a1, a2⟩ | ⟨a1, a2, a3⟩ | ⟨a1, a2, a3⟩ <;> rcases hcn with ⟨b1, b2⟩ | ⟨b1, b2, b3⟩ | ⟨b1, b2, b3⟩ <;> first | omega | exact absurd b1 a1 | exact absurd a1 b1 | exact absurd b2 a2 | exact absurd a2 b2
        exact ⟨h1, h5⟩
    have hc0 : (c != 0) = true := by rw [bne_iff_ne]; omega
    clear hno hqp hc hcn hL
    go_enter Tryd.func3, Tryd.ntmps3
    go_wp2_with fail
    refine (HN.out _).mono ?_
    rintro e w1 ⟨rfl, hc1, hb1, hlt1⟩
    have HC1 := hid hc1
    have HB1 := hid hb1
    clear hc1 hb1
    go_wp2_with fail
    refine (HD.out _ w1 HC1.out).mono ?_
    rintro e w2 ⟨rfl, rfl⟩
    go_wp2_with fail
    refine (HF.out _).mono ?_
    rintro e w3 ⟨rfl, rfl⟩
    go_wp2_with fail
    go_ret
    exact ⟨rfl, HB1.out⟩
  · have HN : Hid (∀ w1 : World, Laid w1 → Calls Tryd.prog 4 #[.int .i64 p] w1 fun e w' => e = .returned (.tuple #[.pointer none, .bool true]) ∧ Below w1.heap.size w1 w') := fun w1 h => field_no p w1 h hok hp1 hp2
    clear hno hok hL
    go_enter Tryd.func3, Tryd.ntmps3
    go_wp2_with fail
    refine (HN.out _ HL.out).mono ?_
    rintro e w4 ⟨rfl, hb4⟩
    have HB4 := hid hb4
    clear hb4 HN HL
    go_wp2_with fail
    go_ret
    exact ⟨rfl, HB4.out⟩

theorem colz_ls (rows : List (List Int)) (i : Nat) : colz rows i = ls (fun j => zat (rat rows j) i) rows.length := by
  apply List.ext_getElem
  · simp [colz, ls]
  · intro j h1 h2
    have hj : j < rows.length := by simpa [colz] using h1
    simp [colz, ls, rat, hj]

theorem wdB_app (m : Nat) (l : List (List Int)) (r : List Int) : wdB m (l ++ [r]) = (wdB m l && (r.length == m)) := by simp [wdB]
/-- are the words bad, so far? -/
def bdB (b : Bool) (N : Nat) (words : List (List Int)) (j : Nat) : Bool := b || !(wdB N (words.take j))
theorem bdB_zero (b : Bool) (N : Nat) (words : List (List Int)) : bdB b N words 0 = b := by simp [bdB, wdB]
theorem bdB_succ (b : Bool) {N : Nat} {words : List (List Int)} {j : Nat} (h : j < words.length) : bdB b N words (j + 1) = (bdB b N words j || ((rat words j).length != N)) := by
  unfold bdB
  rw [take_rat h, wdB_app]
  cases b <;> cases wdB N (words.take j) <;> cases h2 : ((rat words j).length == N) <;> simp_all [bne]
theorem bdB_end (b : Bool) (N : Nat) (words : List (List Int)) : bdB b N words words.length = (b || !(wdB N words)) := by unfold bdB; rw [List.take_length]

set_option maxRecDepth 1000000 in
set_option maxHeartbeats 2000000 in
theorem wbatches_yes (q k : Nat) (s g : Int) (c1 c2 : Nat) (a1 a2 : Option Addr) (first : List Int) (words : List (List Int)) (w : World) (hL : Laid w) (hG : GoodAt q k s) (hs1 : -9223372036854775808 ≤ s) (hs2 : s ≤ 9223372036854775807) (hgb : I64 g)
    (hf : Fits first) (hfl : first.length ≤ 17592186044416) (hl1 : RowB w.heap.size w a1 first) (hF : FitsR words) (hl2 : LstR w.heap.size w a2 c2 words) (hn : words.length ≤ 5864062014634) :
    Calls Tryd.prog 3 #[.int .i64 q, .int .i64 ((2 ^ k : Nat) : Int), .int .i64 s, .slice a1 first.length c1, .slice a2 words.length c2, .int .i64 g] w fun e w' => e = .returned (.bool true) ∧ Below w.heap.size w w' := by
  have HL := hid hL
  have HG := hid hG
  obtain ⟨hpr, h3, h4, hk, hd, hs⟩ := hG
  have hle := two_pow_le hk
  have HN := hid (fun w1 => field_yes q w1 h3 h4 hpr)
  have HD : Hid (∀ (b : Nat) (w1 : World), w1.cell? ⟨b, 0, none⟩ = some (.int .i64 q) → Calls Tryd.prog 5 #[.pointer (some ⟨b, 0, none⟩), .int .i64 ((2 ^ k : Nat) : Int), .int .i64 s] w1 fun e w' =>
      ∃ (d r : Nat), e = .returned (.tuple #[.pointer (some ⟨d, 0, none⟩), .nilIface]) ∧ w1.heap.size ≤ d ∧ RootIs q ((2 ^ k : Nat) : Int) r ∧ DomAt w' d b ((2 ^ k : Nat) : Int) r (s % (q : Int)) ∧ Below w1.heap.size w1 w') :=
    fun b w1 h => dnew_ok q b k s w1 hpr h3 h4 h hk hd hs1 hs2 hs
  have HF : Hid (∀ w1 : World, Calls Tryd.prog 6 #[.int .i64 q, .int .i64 ((2 ^ k : Nat) : Int), .int .i64 s] w1 fun e w' => e = .returned (.int .i64 0) ∧ w' = w1) := fun w1 =>
    (fault_any q ((2 ^ k : Nat) : Int) s w1 h3 h4 (by omega) (by omega) hs1 hs2).mono fun e w' ⟨c, h1, h2, h5⟩ => by
      rcases h2 with ⟨h2, _⟩ | ⟨_, h2, _⟩ | ⟨_, _, rfl⟩
      · exact absurd ⟨k, hk, rfl, hd⟩ h2
      · exact absurd h2 hs
      · exact ⟨h1, h5⟩
  have HR : Hid (∀ w1 : World, Calls Tryd.prog 7 #[.int .i64 q, .int .i64 ((2 ^ k : Nat) : Int), .int .i64 s] w1 fun e w' => ∃ r : Nat, e = .returned (.agg #[.int .i64 q, .int .i64 ((2 ^ k : Nat) : Int), .int .i64 (s % (q : Int)), .int .i64 r]) ∧ RootIs q ((2 ^ k : Nat) : Int) r ∧ Below w1.heap.size w1 w') :=
    fun w1 => rdnew_any q _ s w1 hpr h3 h4 (by omega) (by omega) hs1 hs2
  have HRT : Hid (∀ r : Nat, RootIs q ((2 ^ k : Nat) : Int) r → r < q) := fun r h => (root_ord2 HG.out.pr h3 HG.out.hd h).2
  have HPR := hid hpr
  have HGB := hid hgb
  have HFF := hid hf
  have HFR := hid hF
  have HL1 := hid hl1
  have HL2 := hid hl2
  obtain ⟨t0, t1⟩ := emod_bounds s q h3
  obtain ⟨fl, hfl'⟩ : ∃ fl, fl = first.length := ⟨_, rfl⟩
  obtain ⟨m, hm⟩ : ∃ m, m = words.length := ⟨_, rfl⟩
  have HBT : Hid (∀ (b d r : Nat) (t : Int) (N : Nat) (W : World), W.cell? ⟨b, 0, none⟩ = some (.int .i64 q) → DomAt W d b (N : Int) r t → N ≤ 65536 → r < q → 0 ≤ t → t < q → Below w.heap.size w W →
      Calls Tryd.prog 8 #[.pointer (some ⟨d, 0, none⟩), .slice a1 fl c1, .slice a2 m c2, .int .i64 g] W (BtR q N t r g first words W)) := fun b d r t N W z1 z2 z3 z4 z5 z6 hb => by
    rw [hfl', hm]
    exact pbatch_any q b d N c1 c2 r t g a1 a2 first words W HPR.out h3 h4 z1 z2 z3 (by omega) (by omega) z5 z6 HGB.out HFF.out hfl ((HL1.out.below hb).mono hb.size) HFR.out ((HL2.out.below hb).mono hb.size) hn
  have HFL := hid hfl'
  have HM := hid hm
  rw [← hfl'] at hfl ⊢
  rw [← hm] at hn ⊢
  clear hpr hd hs hL hgb hf hF hl1 hl2 hfl' hm
  clear HG hk
  generalize 2 ^ k = N at *
  generalize s % (q : Int) = t at *
  go_enter Tryd.func3, Tryd.ntmps3
  go_wp2_with fail
  refine (HN.out _).mono ?_
  rintro e w1 ⟨rfl, hc1, hb1, hlt1⟩
  have HC1 := hid hc1
  have HB1 := hid hb1
  have hsz1 := hb1.size
  clear hc1 hb1
  go_wp2_with fail
  refine (HD.out _ w1 HC1.out).mono ?_
  rintro e w2 ⟨d, r, rfl, hld, hr, hda, hb2⟩
  have HRR := hid hr
  have HC2 := hid ((hb2.cell (p := ⟨w.heap.size, 0, none⟩) hlt1).trans HC1.out)
  have HDA := hid hda
  have HB2 : Hid (Below w.heap.size w w2) := HB1.out.trans (hb2.mono hsz1)
  have hsz2 := hb2.size
  clear hr hda hb2
  go_wp2_with fail
  refine (HF.out _).mono ?_
  rintro e w3 ⟨rfl, rfl⟩
  go_wp2_with fail
  refine (HR.out _).mono ?_
  rintro e w5 ⟨r2, rfl, hr2, hb5⟩
  obtain rfl : r2 = r := rootIs_unique hr2 HRR.out
  have hrlt := HRT.out r2 hr2
  have HB5 : Hid (Below w.heap.size w w5) := HB2.out.trans (hb5.mono HB2.out.size)
  have hba : Below w5.heap.size w5 (w5.alloc (.cells #[.int .i64 q, .int .i64 N, .int .i64 t, .int .i64 r2] 34)) := (Below.refl _ _).alloc (Nat.le_refl _) _
  have hbl5 : w.heap.size < w5.heap.size := by have := hb5.size; omega
  have HC5 : Hid ((w5.alloc (.cells #[.int .i64 q, .int .i64 N, .int .i64 t, .int .i64 r2] 34)).cell? ⟨w.heap.size, 0, none⟩ = some (.int .i64 q)) := (hba.cell (p := ⟨w.heap.size, 0, none⟩) hbl5).trans ((hb5.cell (p := ⟨w.heap.size, 0, none⟩) (by show w.heap.size < w3.heap.size; omega)).trans HC2.out)
  have HD5 := hid (((HDA.out.below hb5 HDA.out.lt).below hba (by have := HDA.out.lt; have := hb5.size; omega)))
  have HQ5 := hid (quad_new w5 34 (.int .i64 q) (.int .i64 N) (.int .i64 t) (.int .i64 r2))
  have hsx : w5.heap.size < (w5.alloc (.cells #[.int .i64 q, .int .i64 N, .int .i64 t, .int .i64 r2] 34)).heap.size := by simp
  have HB6 : Hid (Below w.heap.size w (w5.alloc (.cells #[.int .i64 q, .int .i64 N, .int .i64 t, .int .i64 r2] 34))) := HB5.out.trans (hba.mono (by omega))
  clear hr2 hb5 hba HN HD HF HR HC1 HB1 HC2 HB2 HDA HRR HRT HB5
  go_wp2_with fail
  generalize (w5.alloc (.cells #[.int .i64 q, .int .i64 N, .int .i64 t, .int .i64 r2] 34)) = w6 at *
  refine (HBT.out w.heap.size d r2 t N w6 HC5.out HD5.out hle hrlt t0 t1 HB6.out).mono ?_
  rintro e w7 ⟨hb7, hif⟩
  have HB7 := hid hb7
  have HB07 : Hid (Below w.heap.size w w7) := HB6.out.trans (hb7.mono HB6.out.size)
  have HQ7 := hid (HQ5.out.of_block (hb7.block _ hsx))
  have hsx7 : w5.heap.size < w7.heap.size := Nat.lt_of_lt_of_le hsx hb7.size
  have HL7 : Hid (Laid w7) := HL.out.below HB07.out
  clear hb7 HBT HC5 HD5 HQ5 HB6 HB7
  -- the row of lengths
  have HRW : Hid (∀ j, j < m → ∃ b o ak ck, a2 = some ⟨b, o, none⟩ ∧ b < w.heap.size ∧ (∀ W, Below w.heap.size w W → W.cell? ⟨b, o + j, none⟩ = some (.slice ak (rat words j).length ck)) ∧ ∀ i, i < (rat words j).length → ∃ b2 o2, ak = some ⟨b2, o2, none⟩ ∧ ∀ W, Below w.heap.size w W → W.cell? ⟨b2, o2 + i, none⟩ = some (.int .i64 (zat (rat words j) i))) := fun j hj => by
    obtain ⟨b, o, ak, ck, e1, e2, e3, e4⟩ := HL2.out.row j (by rw [← HM.out]; exact hj)
    refine ⟨b, o, ak, ck, e1, e2, fun W hW => (hW.cell (p := ⟨b, o + j, none⟩) e2).trans e3, fun i hi => ?_⟩
    obtain ⟨b2, o2, f1, f2, f3⟩ := e4.row i hi
    exact ⟨b2, o2, f1, fun W hW => (hW.cell (p := ⟨b2, o2 + i, none⟩) f2).trans f3⟩
  by_cases hbad : N < 8 ∨ fl ≠ N ∨ wdB N words = false
  · rw [if_pos (by rw [← HFL.out]; exact hbad)] at hif
    obtain rfl := hif
    by_cases h8 : N < 8
    · have q8 : (N : Int) < 8 := by omega
      obtain ⟨B, hB⟩ : ∃ B, B = bdB true N words := ⟨_, rfl⟩
      have HB0 : Hid (B 0 = true) := by unfold Hid; rw [hB]; exact bdB_zero _ _ _
      have HBS : Hid (∀ j, j < m → B (j + 1) = (B j || ((rat words j).length != N))) := fun j hj => by rw [hB]; exact bdB_succ _ (by rw [← HM.out]; exact hj)
      have HBM : Hid (B m = true) := by unfold Hid; rw [hB, HM.out, bdB_end]; rfl
      clear hB
      go_wp2_with fail
      go_loop [20, 21] (fun bv iv => ∃ j : Nat, j ≤ m ∧ iv = .int .i64 j ∧ bv = .bool (B j)) (fun _ iv => m - (intOf iv).toNat)
      case atStart => exact ⟨0, Nat.zero_le _, rfl, by rw [HB0.out]⟩
      case round =>
        obtain ⟨j, hj, rfl, rfl⟩ := hrel
        by_cases hlt : j < m
        · have hlt2 : (j : Int) < (m : Int) := by omega
          have hjs : IntKind.i64.wrap ((j : Int) + 1) = (j : Int) + 1 := by rw [IntKind.wrap_i64]; omega
          have HSJ := hid (HBS.out j hlt)
          obtain ⟨bw, ow, ak, ck, rfl, hbw, hcw, _⟩ := HRW.out j hlt
          have kw := hcw w7 HB07.out
          generalize (rat words j).length = lj at *
          obtain ⟨bj, hbj⟩ : ∃ bj, bj = B j := ⟨_, rfl⟩
          rw [← hbj] at HSJ ⊢
          clear hbj hcw
          cases bj with
          | true =>
            have HK : Hid (B (j + 1) = true) := by unfold Hid; rw [HSJ.out]; rfl
            clear HSJ
            go_wp2_with fail
            go_round
            case rel => exact ⟨j + 1, by omega, by go_num, by rw [HK.out]⟩
            case measure => simp [intOf]; omega
          | false =>
            by_cases hl : lj = N
            · have HK : Hid (B (j + 1) = false) := by unfold Hid; rw [HSJ.out, hl]; simp
              have qn : ((lj : Int) != (N : Int)) = false := by rw [hl]; simp
              clear HSJ
              go_wp2_with fail
              go_round
              case rel => exact ⟨j + 1, by omega, by go_num, by rw [HK.out]⟩
              case measure => simp [intOf]; omega
            · have HK : Hid (B (j + 1) = true) := by unfold Hid; rw [HSJ.out]; simp [hl]
              have qn : ((lj : Int) != (N : Int)) = true := by rw [bne_iff_ne]; omega
              clear HSJ
              go_wp2_with fail
              go_round
              case rel => exact ⟨j + 1, by omega, by go_num, by rw [HK.out]⟩
              case measure => simp [intOf]; omega
        · obtain rfl : j = m := by omega
          have hlt2 : ¬ (j : Int) < (j : Int) := by omega
          rw [HBM.out]
          clear HB0 HBS HBM
          go_wp2_with fail
          refine (error_hit 2 2 w7 HL7.out).mono ?_
          rintro e w8 ⟨rfl, hb8⟩
          have HB8 := hid (HB07.out.trans (hb8.mono HB07.out.size))
          clear hb8
          go_wp2_with fail
          go_ret
          exact ⟨by first | rfl | simp, HB8.out⟩
    · have q8 : ¬ (N : Int) < 8 := by omega
      by_cases hlf : fl = N
      · have qf : ((fl : Int) != (N : Int)) = false := by rw [hlf]; simp
        have hwd : wdB N words = false := by
          rcases hbad with h | h | h
          · exact absurd h h8
          · exact absurd hlf h
          · exact h
        obtain ⟨B, hB⟩ : ∃ B, B = bdB false N words := ⟨_, rfl⟩
        have HB0 : Hid (B 0 = false) := by unfold Hid; rw [hB]; exact bdB_zero _ _ _
        have HBS : Hid (∀ j, j < m → B (j + 1) = (B j || ((rat words j).length != N))) := fun j hj => by rw [hB]; exact bdB_succ _ (by rw [← HM.out]; exact hj)
        have HBM : Hid (B m = true) := by unfold Hid; rw [hB, HM.out, bdB_end]; rw [hwd]; rfl
        clear hB
        go_wp2_with fail
        go_loop [20, 21] (fun bv iv => ∃ j : Nat, j ≤ m ∧ iv = .int .i64 j ∧ bv = .bool (B j)) (fun _ iv => m - (intOf iv).toNat)
        case atStart => exact ⟨0, Nat.zero_le _, rfl, by rw [HB0.out, decide_eq_false (show ¬ (N : Int) < 8 by omega)]⟩
        case round =>
          obtain ⟨j, hj, rfl, rfl⟩ := hrel
          by_cases hlt : j < m
          · have hlt2 : (j : Int) < (m : Int) := by omega
            have hjs : IntKind.i64.wrap ((j : Int) + 1) = (j : Int) + 1 := by rw [IntKind.wrap_i64]; omega
            have HSJ := hid (HBS.out j hlt)
            obtain ⟨bw, ow, ak, ck, rfl, hbw, hcw, _⟩ := HRW.out j hlt
            have kw := hcw w7 HB07.out
            generalize (rat words j).length = lj at *
            obtain ⟨bj, hbj⟩ : ∃ bj, bj = B j := ⟨_, rfl⟩
            rw [← hbj] at HSJ ⊢
            clear hbj hcw
            cases bj with
            | true =>
              have HK : Hid (B (j + 1) = true) := by unfold Hid; rw [HSJ.out]; rfl
              clear HSJ
              go_wp2_with fail
              go_round
              case rel => exact ⟨j + 1, by omega, by go_num, by rw [HK.out]⟩
              case measure => simp [intOf]; omega
            | false =>
              by_cases hl : lj = N
              · have HK : Hid (B (j + 1) = false) := by unfold Hid; rw [HSJ.out, hl]; simp
                have qn : ((lj : Int) != (N : Int)) = false := by rw [hl]; simp
                clear HSJ
                go_wp2_with fail
                go_round
                case rel => exact ⟨j + 1, by omega, by go_num, by rw [HK.out]⟩
                case measure => simp [intOf]; omega
              · have HK : Hid (B (j + 1) = true) := by unfold Hid; rw [HSJ.out]; simp [hl]
                have qn : ((lj : Int) != (N : Int)) = true := by rw [bne_iff_ne]; omega
                clear HSJ
                go_wp2_with fail
                go_round
                case rel => exact ⟨j + 1, by omega, by go_num, by rw [HK.out]⟩
                case measure => simp [intOf]; omega
          · obtain rfl : j = m := by omega
            have hlt2 : ¬ (j : Int) < (j : Int) := by omega
            rw [HBM.out]
            clear HB0 HBS HBM
            go_wp2_with fail
            refine (error_hit 2 2 w7 HL7.out).mono ?_
            rintro e w8 ⟨rfl, hb8⟩
            have HB8 := hid (HB07.out.trans (hb8.mono HB07.out.size))
            clear hb8
            go_wp2_with fail
            go_ret
            exact ⟨by first | rfl | simp, HB8.out⟩
      · have qf : ((fl : Int) != (N : Int)) = true := by rw [bne_iff_ne]; omega
        obtain ⟨B, hB⟩ : ∃ B, B = bdB true N words := ⟨_, rfl⟩
        have HB0 : Hid (B 0 = true) := by unfold Hid; rw [hB]; exact bdB_zero _ _ _
        have HBS : Hid (∀ j, j < m → B (j + 1) = (B j || ((rat words j).length != N))) := fun j hj => by rw [hB]; exact bdB_succ _ (by rw [← HM.out]; exact hj)
        have HBM : Hid (B m = true) := by unfold Hid; rw [hB, HM.out, bdB_end]; rfl
        clear hB
        go_wp2_with fail
        go_loop [20, 21] (fun bv iv => ∃ j : Nat, j ≤ m ∧ iv = .int .i64 j ∧ bv = .bool (B j)) (fun _ iv => m - (intOf iv).toNat)
        case atStart => exact ⟨0, Nat.zero_le _, rfl, by rw [HB0.out]⟩
        case round =>
          obtain ⟨j, hj, rfl, rfl⟩ := hrel
          by_cases hlt : j < m
          · have hlt2 : (j : Int) < (m : Int) := by omega
            have hjs : IntKind.i64.wrap ((j : Int) + 1) = (j : Int) + 1 := by rw [IntKind.wrap_i64]; omega
            have HSJ := hid (HBS.out j hlt)
            obtain ⟨bw, ow, ak, ck, rfl, hbw, hcw, _⟩ := HRW.out j hlt
            have kw := hcw w7 HB07.out
            generalize (rat words j).length = lj at *
            obtain ⟨bj, hbj⟩ : ∃ bj, bj = B j := ⟨_, rfl⟩
            rw [← hbj] at HSJ ⊢
            clear hbj hcw
            cases bj with
            | true =>
              have HK : Hid (B (j + 1) = true) := by unfold Hid; rw [HSJ.out]; rfl
              clear HSJ
              go_wp2_with fail
              go_round
              case rel => exact ⟨j + 1, by omega, by go_num, by rw [HK.out]⟩
              case measure => simp [intOf]; omega
            | false =>
              by_cases hl : lj = N
              · have HK : Hid (B (j + 1) = false) := by unfold Hid; rw [HSJ.out, hl]; simp
                have qn : ((lj : Int) != (N : Int)) = false := by rw [hl]; simp
                clear HSJ
                go_wp2_with fail
                go_round
                case rel => exact ⟨j + 1, by omega, by go_num, by rw [HK.out]⟩
                case measure => simp [intOf]; omega
              · have HK : Hid (B (j + 1) = true) := by unfold Hid; rw [HSJ.out]; simp [hl]
                have qn : ((lj : Int) != (N : Int)) = true := by rw [bne_iff_ne]; omega
                clear HSJ
                go_wp2_with fail
                go_round
                case rel => exact ⟨j + 1, by omega, by go_num, by rw [HK.out]⟩
                case measure => simp [intOf]; omega
          · obtain rfl : j = m := by omega
            have hlt2 : ¬ (j : Int) < (j : Int) := by omega
            rw [HBM.out]
            clear HB0 HBS HBM
            go_wp2_with fail
            refine (error_hit 2 2 w7 HL7.out).mono ?_
            rintro e w8 ⟨rfl, hb8⟩
            have HB8 := hid (HB07.out.trans (hb8.mono HB07.out.size))
            clear hb8
            go_wp2_with fail
            go_ret
            exact ⟨by first | rfl | simp, HB8.out⟩
  · rw [if_neg (by rw [← HFL.out]; exact hbad)] at hif
    obtain ⟨X, rfl, hX⟩ := hif
    have h8 : ¬ N < 8 := fun h => hbad (.inl h)
    have q8 : ¬ (N : Int) < 8 := by omega
    have hlf : fl = N := Decidable.byContradiction fun h => hbad (.inr (.inl h))
    have qf : ((fl : Int) != (N : Int)) = false := by rw [hlf]; simp
    have hwd : wdB N words = true := by
      cases e : wdB N words with
      | true => rfl
      | false => exact absurd (.inr (.inr e)) hbad
    have HX := hid hX
    have HWD := hid hwd
    clear hX
    obtain ⟨B, hB⟩ : ∃ B, B = bdB false N words := ⟨_, rfl⟩
    have HB0 : Hid (B 0 = false) := by unfold Hid; rw [hB]; exact bdB_zero _ _ _
    have HBS : Hid (∀ j, j < m → B (j + 1) = (B j || ((rat words j).length != N))) := fun j hj => by rw [hB]; exact bdB_succ _ (by rw [← HM.out]; exact hj)
    have HBM : Hid (B m = false) := by unfold Hid; rw [hB, HM.out, bdB_end]; rw [hwd]; rfl
    clear hB
    go_wp2_with fail
    go_loop [20, 21] (fun bv iv => ∃ j : Nat, j ≤ m ∧ iv = .int .i64 j ∧ bv = .bool (B j)) (fun _ iv => m - (intOf iv).toNat)
    case atStart => exact ⟨0, Nat.zero_le _, rfl, by rw [HB0.out, decide_eq_false (show ¬ (N : Int) < 8 by omega)]⟩
    case round =>
      obtain ⟨j, hj, rfl, rfl⟩ := hrel
      by_cases hlt : j < m
      · have hlt2 : (j : Int) < (m : Int) := by omega
        have hjs : IntKind.i64.wrap ((j : Int) + 1) = (j : Int) + 1 := by rw [IntKind.wrap_i64]; omega
        have HSJ := hid (HBS.out j hlt)
        obtain ⟨bw, ow, ak, ck, rfl, hbw, hcw, _⟩ := HRW.out j hlt
        have kw := hcw w7 HB07.out
        generalize (rat words j).length = lj at *
        obtain ⟨bj, hbj⟩ : ∃ bj, bj = B j := ⟨_, rfl⟩
        rw [← hbj] at HSJ ⊢
        clear hbj hcw
        cases bj with
        | true =>
          have HK : Hid (B (j + 1) = true) := by unfold Hid; rw [HSJ.out]; rfl
          clear HSJ
          go_wp2_with fail
          go_round
          case rel => exact ⟨j + 1, by omega, by go_num, by rw [HK.out]⟩
          case measure => simp [intOf]; omega
        | false =>
          by_cases hl : lj = N
          · have HK : Hid (B (j + 1) = false) := by unfold Hid; rw [HSJ.out, hl]; simp
            have qn : ((lj : Int) != (N : Int)) = false := by rw [hl]; simp
            clear HSJ
            go_wp2_with fail
            go_round
            case rel => exact ⟨j + 1, by omega, by go_num, by rw [HK.out]⟩
            case measure => simp [intOf]; omega
          · have HK : Hid (B (j + 1) = true) := by unfold Hid; rw [HSJ.out]; simp [hl]
            have qn : ((lj : Int) != (N : Int)) = true := by rw [bne_iff_ne]; omega
            clear HSJ
            go_wp2_with fail
            go_round
            case rel => exact ⟨j + 1, by omega, by go_num, by rw [HK.out]⟩
            case measure => simp [intOf]; omega
      · obtain rfl : j = m := by omega
        have hlt2 : ¬ (j : Int) < (j : Int) := by omega
        rw [HBM.out]
        clear HB0 HBS HBM
        have qN : ((N : Int) != (N : Int)) = false := by simp
        have e8 : (N : Int).tdiv 8 = ((N / 8 : Nat) : Int) := by rw [Int.tdiv_eq_ediv_of_nonneg (by omega)]; omega
        have w8' : IntKind.i64.wrap ((N / 8 : Nat) : Int) = ((N / 8 : Nat) : Int) := by rw [IntKind.wrap_i64]; omega
        obtain ⟨n8, hn8⟩ : ∃ n8, n8 = N / 8 := ⟨_, rfl⟩
        rw [← hn8] at e8 w8'
        have HN8 := hid hn8
        have hn81 : 1 ≤ n8 := by omega
        have hn82 : n8 ≤ 65536 := by omega
        have HXX : Hid (∀ i, i < N → ∀ W, Below w7.heap.size w7 W → W.cell? ⟨X, i, none⟩ = some (.int .i64 (btz q n8 (Dom.pt q t r2 i) (zat first i) g (ls (fun k => zat (rat words k) i) j)))) := fun i hi W hW => by
          have h1 := HX.out.cell (i := i) hi
          have h2 := (hW.cell (p := ⟨X, i, none⟩) HX.out.lt).trans h1
          rw [h2, HN8.out]
          show some (Value.int .i64 (btv q N t r2 g first words i)) = _
          unfold btv
          rw [colz_ls, HM.out]
        have HQQ : Hid (∀ W, Below w7.heap.size w7 W → W.rowIs w5.heap.size 34 4 (quad (.int .i64 q) (.int .i64 N) (.int .i64 t) (.int .i64 r2))) := fun W hW => HQ7.out.of_block (hW.block _ hsx7)
        clear hn8
        go_wp2_with fail
        go_loopw [23, 24, 25, 26, 27] (fun iv _ _ _ _ wr => ∃ i : Nat, i ≤ N ∧ iv = .int .i64 i ∧ Hid (Below w7.heap.size w7 wr)) (fun iv _ _ _ _ _ => N - (intOf iv).toNat)
        case atStart => exact ⟨0, Nat.zero_le _, rfl, Below.refl _ _⟩
        case round =>
          obtain ⟨i, hi, rfl, HBR⟩ := hrel
          obtain ⟨w8, hw8⟩ : ∃ w8, w8 = wr := ⟨wr, rfl⟩
          subst hw8
          by_cases hil : i < N
          · have hil2 : (i : Int) < (N : Int) := by omega
            have his : IntKind.i64.wrap ((i : Int) + 1) = (i : Int) + 1 := by rw [IntKind.wrap_i64]; omega
            have hszr := HBR.out.size
            obtain ⟨F, hFd⟩ : ∃ F : Nat → Int, F = fun k => zat (rat words k) i := ⟨_, rfl⟩
            have HXI := hid (HXX.out i hil)
            rw [← hFd] at HXI
            have HROW : Hid (∀ jj, jj < j → ∃ b o ak ck, a2 = some ⟨b, o, none⟩ ∧ (∀ W, Below w.heap.size w W → W.cell? ⟨b, o + jj, none⟩ = some (.slice ak N ck)) ∧ ∃ b2 o2, ak = some ⟨b2, o2, none⟩ ∧ ∀ W, Below w.heap.size w W → W.cell? ⟨b2, o2 + i, none⟩ = some (.int .i64 (F jj))) := fun jj hjj => by
              obtain ⟨b, o, ak, ck, ea, _, hcw, hel⟩ := HRW.out jj hjj
              have hl := wdB_at HWD.out (show jj < words.length by have := HM.out; omega)
              rw [hl] at hcw hel
              obtain ⟨b2, o2, e2, h2⟩ := hel i hil
              exact ⟨b, o, ak, ck, ea, hcw, b2, o2, e2, fun W hW => by rw [h2 W hW, hFd]⟩
            have HFF2 : Hid (Fits (ls F j)) := fun k hk => by
              rw [ls_len] at hk
              rw [ls_at _ _ _ hk, hFd]
              exact Fits.all (HFR.out k (by have := HM.out; omega)).1 i
            have HBw : Hid (∀ W, Below w8.heap.size w8 W → Below w.heap.size w W ∧ Below w7.heap.size w7 W) := fun W hW => by
              have h7 := HBR.out.trans (hW.mono hszr)
              exact ⟨HB07.out.trans (h7.mono HB07.out.size), h7⟩
            obtain ⟨b1, o1, ea1, hb1, hc1⟩ := HL1.out i (by have := HFL.out; omega)
            subst ea1
            have HC1 : Hid (∀ W, Below w.heap.size w W → W.cell? ⟨b1, o1 + i, none⟩ = some (.int .i64 (zat first i))) := fun W hW => (hW.cell (p := ⟨b1, o1 + i, none⟩) hb1).trans hc1
            have hfi : I64 (zat first i) := Fits.all HFF.out i
            have HFI := hid hfi
            generalize zat first i = x1 at *
            clear hFd hc1 hb1 hfi
            obtain ⟨i0, hi0, hz0, hz1, hz2⟩ := info_parts Tryd.infoInt
            go_wp2_with fail
            go_loopw [24, 25] (fun av jv wq => ∃ jj : Nat, jj ≤ j ∧ jv = .int .i64 jj ∧ Hid (wq.ownsRow w8.heap.size 3 1 av (ls F jj).length ((ls F jj).map (Value.int .i64))) ∧ Hid (Below w8.heap.size w8 wq)) (fun _ jv _ => j - (intOf jv).toNat)
            case atStart => exact ⟨0, Nat.zero_le _, rfl, World.ownsRow_nil _ _ _ _, Below.refl _ _⟩
            case round =>
              obtain ⟨jj, hjj, rfl, HOW, HBQ⟩ := hrel
              by_cases hjl : jj < j
              · have hjl2 : (jj : Int) < (j : Int) := by omega
                have hjjs : IntKind.i64.wrap ((jj : Int) + 1) = (jj : Int) + 1 := by rw [IntKind.wrap_i64]; omega
                obtain ⟨bw, ow, ak, ck, rfl, hcw, b2, o2, rfl, hcx⟩ := HROW.out jj hjl
                have kw := hcw wr (HBw.out wr HBQ.out).1
                have kx := hcx wr (HBw.out wr HBQ.out).1
                have HLS := hid (ls_succ F jj)
                have HLL := hid (ls_len F jj)
                have hown := HOW.out
                have hbel := HBQ.out
                have hsz8 := HBQ.out.size
                generalize F jj = x at *
                generalize ls F jj = lk at *
                clear hcw hcx HOW HBQ
                go_wp2_with (at_builtin; refine wpList_append_own _ rfl _ _ 22 rfl w8.heap.size 3 i0 (.int .i64 0) 1 8 Tryd.underlying22 hi0 hz0 hz1 hz2 rfl (by decide) _ _ _ rfl (hown.alloc _) ⟨wr.heap.size, 0, none⟩ 1 1 [.int .i64 x] rfl rfl ?c1 ?c2 ?c3 ?c4 ?c5 ?_)
                case c1 =>
                  intro j2 u hj2
                  match j2, hj2 with
                  | 0, hj2 => simp at hj2; subst hj2; simp [Addr.add]
                case c2 => intro u hu; simp at hu; subst hu; rfl
                case c3 => have := HLL.out; unfold maxLen; omega
                case c4 => have := HLL.out; omega
                case c5 => simp; omega
                intro v' w9 hown2 hgrow _
                have HO := hid (owns_succ hown2)
                have HB9 : Hid (Below w8.heap.size w8 w9) := (hbel.alloc hsz8 _).grown hgrow (by simp; omega) (fun k hk => (hown.lt k hk).1)
                clear hown2 hgrow hown hbel
                go_wp2_with fail
                go_roundw
                case rel => exact ⟨jj + 1, by omega, by go_num, by rw [HLS.out]; exact HO.out, HB9.out⟩
                case measure => simp [intOf]; omega
              · obtain rfl : jj = j := by omega
                have hjl2 : ¬ (jj : Int) < (jj : Int) := by omega
                obtain ⟨a', c', rfl, hl'⟩ := lst_of_owns HOW.out
                rw [ls_len]
                have HLA := hid hl'
                have HQ9 := HQQ.out wr (HBw.out wr HBQ.out).2
                have z0 := HQ9.cell (i := 0) (by omega)
                have z1 := HQ9.cell (i := 1) (by omega)
                have z2 := HQ9.cell (i := 2) (by omega)
                have z3 := HQ9.cell (i := 3) (by omega)
                simp only [quad] at z0 z1 z2 z3
                have HPT := hid (rpoint_any q i (N : Int) (r2 : Int) t wr h3 h4 (by omega) (by omega) (by omega) t0 t1)
                have hptb := pt_bd h3 t (r2 : Int) i
                generalize Dom.pt q t (r2 : Int) i = pt at *
                clear HOW hl' HQ9
                go_wp2_with fail
                refine HPT.out.mono ?_
                rintro e w9 ⟨rfl, hb9⟩
                have HB9 := hid (HBQ.out.trans (hb9.mono HBQ.out.size))
                have HRB := hid (rbatched_any q n8 c' pt x1 g a' (ls F jj) w9 HPR.out h3 h4 hn81 hn82 (by unfold I64; omega) HFI.out HGB.out (by rw [ls_len]; omega) HFF2.out ((HLA.out.row.below hb9).mono hb9.size))
                rw [ls_len] at HRB
                have kf := HC1.out w9 (HBw.out w9 HB9.out).1
                have kl := HXI.out w9 (HBw.out w9 HB9.out).2
                generalize btz q n8 pt x1 g (ls F jj) = y at *
                have qy : (y != y) = false := by simp
                clear hb9 HPT z0 z1 z2 z3 HLA HXI
                go_wp2_with fail
                refine HRB.out.mono ?_
                rintro e w10 ⟨rfl, hw10⟩
                have hw10' := hw10.symm
                subst hw10'
                clear hw10 HRB
                have HB7 := hid (HBw.out w9 HB9.out).2
                go_wp2_with fail
                go_roundw
                case rel => exact ⟨i + 1, by omega, by go_num, HB7⟩
                case measure => simp [intOf]; omega
          · have hil2 : ¬ (i : Int) < (N : Int) := by omega
            have HBF := hid (HB07.out.trans (HBR.out.mono HB07.out.size))
            go_wp2_with fail
            go_ret
            exact ⟨by first | rfl | simp, HBF.out⟩

theorem wbatches_walk (p n s g : Int) (c1 c2 : Nat) (a1 a2 : Option Addr) (first : List Int) (words : List (List Int)) (w : World) (hL : Laid w) (hp1 : -9223372036854775808 ≤ p) (hp2 : p ≤ 9223372036854775807) (hn1 : -9223372036854775808 ≤ n) (hn2 : n ≤ 9223372036854775807) (hs1 : -9223372036854775808 ≤ s) (hs2 : s ≤ 9223372036854775807) (hgb : I64 g)
    (hf : Fits first) (hfl : first.length ≤ 17592186044416) (hl1 : RowB w.heap.size w a1 first) (hF : FitsR words) (hl2 : LstR w.heap.size w a2 c2 words) (hn : words.length ≤ 5864062014634) :
    Calls Tryd.prog 3 #[.int .i64 p, .int .i64 n, .int .i64 s, .slice a1 first.length c1, .slice a2 words.length c2, .int .i64 g] w fun e w' => e = .returned (.bool true) ∧ Below w.heap.size w w' := by
  by_cases hgood : Good p n s
  · obtain ⟨q, k, rfl, rfl, hG⟩ := hgood
    exact wbatches_yes q k s g c1 c2 a1 a2 first words w hL hG hs1 hs2 hgb hf hfl hl1 hF hl2 hn
  · exact wbatches_no p n s g c1 c2 first.length words.length a1 a2 w hL hgood hp1 hp2 hn1 hn2 hs1 hs2

end Go.Proofs.YtfppkjpgihnibaaDoor
