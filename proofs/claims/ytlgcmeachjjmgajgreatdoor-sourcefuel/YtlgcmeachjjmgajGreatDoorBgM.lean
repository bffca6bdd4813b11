/- Package source: names in brackets, read. Package source: a function, read. Package source: functions in a row. A map to numbers, in memory, whatever its keys. Package source: names that stand for something. -/
import Derived.Test.YtlgcmeachjjmgajGreatDoorBgL
import Derived.Maps.OwnOps
import Derived.Maps.OwnSet
import Derived.DeepKeys4
import Derived.WalkArith
import Derived.StringKeys
namespace Go.Proofs.YtlgcmeachjjmgajGreatDoor
open Go.RowKit

/-- names, as they lie in memory -/
def nmv : List (List UInt8 × Nat) → List Value
  | [] => []
  | x :: r => .string (bs x.1) :: .int .i64 (x.2 : Int) :: nmv r
theorem nmv_len : ∀ l, (nmv l).length = l.length * 2
  | [] => rfl
  | x :: r => by simp [nmv, nmv_len r]; omega
theorem nmv_app : ∀ l m, nmv (l ++ m) = nmv l ++ nmv m
  | [], m => rfl
  | x :: r, m => by simp [nmv, nmv_app r m]
theorem nmv_at : ∀ (l : List (List UInt8 × Nat)) (i : Nat) (x : List UInt8 × Nat), l[i]? = some x → (nmv l)[i * 2]? = some (.string (bs x.1)) ∧ (nmv l)[i * 2 + 1]? = some (.int .i64 (x.2 : Int))
  | [], i, x, h => by simp at h
  | y :: r, 0, x, h => by simp at h; subst h; exact ⟨rfl, rfl⟩
  | y :: r, i + 1, x, h => by
    have ih := nmv_at r i x (by simpa using h)
    rw [show (i + 1) * 2 = i * 2 + 2 by omega]
    exact ih
def RowN (base : Nat) (w : World) (v : Value) (ts : List (List UInt8 × Nat)) : Prop := w.ownsRow base 78 2 v ts.length (nmv ts)
theorem RowN.fr {R base : Nat} {w w' : World} {v : Value} {ts : List (List UInt8 × Nat)} (h : RowN base w v ts) (f : Fr R w w') (hb : R < base) : RowN base w' v ts := ownsRow_fr h f hb
theorem RowN.form {base : Nat} {w : World} {v : Value} {ts : List (List UInt8 × Nat)} (h : RowN base w v ts) : ∃ a c, v = .slice a ts.length c := by
  rcases h.2 with ⟨rfl, h0⟩ | ⟨g, cap, cur, rfl, _⟩
  · exact ⟨none, 0, by rw [h0]⟩
  · exact ⟨_, _, rfl⟩
/-- names in memory -/
def NmR (lo : Nat) (w : World) (a : Option Addr) (ts : List (List UInt8 × Nat)) : Prop := ∀ (i : Nat) x, ts[i]? = some x → ∃ g, a = some ⟨g, 0, none⟩ ∧ lo ≤ g ∧ w.cell? ⟨g, i * 2, none⟩ = some (.string (bs x.1)) ∧ w.cell? ⟨g, i * 2 + 1, none⟩ = some (.int .i64 (x.2 : Int))
theorem NmR.keep {lo lo' : Nat} {w w' : World} {a : Option Addr} {ts : List (List UInt8 × Nat)} (h : NmR lo w a ts) (hl : lo' ≤ lo) (hk : ∀ b, lo ≤ b → b < w.heap.size → w'.heap[b]? = w.heap[b]?) : NmR lo' w' a ts := fun i x hx => by
  obtain ⟨g, h1, h2, h3, h4⟩ := h i x hx
  have hb := hk g h2 (World.block_lt_of_cell? _ _ h3)
  exact ⟨g, h1, Nat.le_trans hl h2, (World.cell?_of_block (a := ⟨g, i * 2, none⟩) hb).trans h3, (World.cell?_of_block (a := ⟨g, i * 2 + 1, none⟩) hb).trans h4⟩
def VN (lo : Nat) : World → Value → List (List UInt8 × Nat) → Prop := fun w v ts => ∃ a c, v = .slice a ts.length c ∧ NmR lo w a ts
theorem RowN.vl {base : Nat} {w : World} {v : Value} {ts : List (List UInt8 × Nat)} (h : RowN base w v ts) : VN base w v ts := by
  rcases h.2 with ⟨rfl, h0⟩ | ⟨g, cap, cur, rfl, hbs, _⟩
  · obtain rfl : ts = [] := List.length_eq_zero_iff.1 h0
    exact ⟨none, 0, rfl, fun i x hx => by simp at hx⟩
  · refine ⟨_, _, rfl, fun i x hx => ⟨g, rfl, hbs, ?_⟩⟩
    obtain ⟨e1, e2⟩ := nmv_at ts i x hx
    have hadd : ∀ j, (⟨g, 0, none⟩ : Addr).add j = ⟨g, j, none⟩ := fun j => by unfold Addr.add; split <;> simp_all
    have h5 := h.cells (g := g) rfl _ _ e1
    have h6 := h.cells (g := g) rfl _ _ e2
    rw [hadd] at h5 h6
    exact ⟨h5, h6⟩
theorem cell_two_new (w : World) (x y : Value) (t : TypeId) : ∀ j u, [x, y][j]? = some u → (w.alloc (.cells #[x, y] t)).cell? ((⟨w.heap.size, 0, none⟩ : Addr).add j) = some u := by
  intro j u hj
  have hadd : (⟨w.heap.size, 0, none⟩ : Addr).add j = ⟨w.heap.size, j, none⟩ := by unfold Addr.add; split <;> simp_all
  rw [hadd]
  unfold World.cell?
  rw [heap_alloc_new]
  match j, hj with
  | 0, hj => simpa using hj
  | 1, hj => simpa using hj
  | n + 2, hj => simp at hj
/-- what is left to read behind some names -/
def NamR (T : ByteArray) (f : Nat) (r : Res (List (List UInt8 × Nat))) (ts : List (List UInt8 × Nat)) (a : Nat) : Prop :=
  (ts = [] ∧ r = (pTake (by' T) 11 a).bind fun _ a4 => .ok [] a4) ∨ (ts ≠ [] ∧ ∃ g, g ≤ f ∧ r = (pNames (by' T) g ts a).bind fun xs a3 => (pTake (by' T) 11 a3).bind fun _ a4 => .ok xs a4)
theorem pBrack_enter (L : List UInt8) (f j : Nat) : pBrack L f j = (pEnter L 10 j 0).bind fun _ a1 => (if (tok L a1).kind = 11 then .ok [] a1 else (pName L a1).bind fun x a2 => pNames L f [x] a2).bind fun xs a3 => (pTake L 11 a3).bind fun _ a4 => .ok xs a4 := by
  unfold pBrack pEnter
  cases pTake L 10 j with
  | out => rfl
  | bad e a => rfl
  | ok t a => rfl

set_option maxRecDepth 100000 in
set_option maxHeartbeats 4000000 in
theorem brackX (R : Nat) (T : ByteArray) (f j : Nat) (w : World) (hR : RdAt w R T j 0) (r : Res (List (List UInt8 × Nat))) (hr : r = pBrack (by' T) f j) (hro : r ≠ .out) :
    Calls Tryz.prog 116 #[.pointer (some ⟨R, 0, none⟩), .func (.func 115) #[.pointer (some ⟨R, 0, none⟩)] #[]] w (Rx w R T 0 0 (VN w.heap.size) r) := by
  have hl : (0 : Nat) ≤ 64 := by omega
  have HT := hid (enterX R T j 0 10 w hR hl)
  have hlt := hR.lt
  have HSM := hid hR.small
  rw [pBrack_enter] at hr
  have HR := hid hr
  have HRO := hid hro
  obtain ⟨i0, hi, hz0, hz1, hz2⟩ := info_parts (show (Tryz.prog.info? 78).map (fun i => (i.zero, i.size, i.bytes)) = some (some (.agg #[.string ⟨#[]⟩, .int .i64 0]), 2, 24) by kernel_rfl)
  have HI := hid (And.intro hi (And.intro hz0 (And.intro hz1 hz2)))
  clear hR hr hro hi hz0 hz1 hz2
  go_enter_defers Tryz.func116, Tryz.ntmps116
  go_wp2_with fail
  refine HT.out.mono ?_
  intro e w0 he
  cases hp : pEnter (by' T) 10 j 0 with
  | out => exact absurd hp pEnter_out
  | bad er at' =>
    rw [hp] at he
    obtain ⟨h1, rfl, h2⟩ := he
    have hr2 := HR.out
    rw [hp] at hr2
    subst hr2
    exact ⟨h1, rfl, h2⟩
  | ok u a0 =>
    rw [hp] at he
    obtain ⟨h1, v, rfl, rfl, h2⟩ := he
    have hr2 := HR.out
    rw [hp] at hr2
    simp only [Res.bind] at hr2
    have HF0 := hid h1
    have HD0 := hid h2
    have HR0 := hid hr2
    have c1 : w0.cell? ⟨R, 1, none⟩ = some (.int .i64 ((tok (by' T) a0).kind : Int)) := by simp [World.cell?, h2.h]
    clear h1 h2 hp HT HR hr2
    obtain ⟨kd, hkd⟩ : ∃ kd, (tok (by' T) a0).kind = kd := ⟨_, rfl⟩
    have HKD := hid hkd
    rw [hkd] at c1
    clear hkd
    by_cases h11 : kd = 11
    case' pos =>
      have q : ((kd : Int) != 11) = false := by rw [h11]; rfl
      have hr2 := HR0.out
      rw [if_pos (HKD.out.trans h11)] at hr2
      have HAr : Hid (NamR T f r [] a0) := .inl ⟨rfl, hr2⟩
      clear hr2 h11
      go_wp2_with fail
      obtain ⟨wA, hwA⟩ : ∃ wA, wA = w0 := ⟨_, rfl⟩
      obtain ⟨vA, hvA⟩ : ∃ vA : Value, vA = .slice none 0 0 := ⟨_, rfl⟩
      obtain ⟨tsA, htA⟩ : ∃ tsA : List (List UInt8 × Nat), tsA = [] := ⟨_, rfl⟩
      obtain ⟨aA, haA⟩ : ∃ aA, aA = a0 := ⟨_, rfl⟩
      have HRow : Hid (RowN w.heap.size wA vA tsA) := by rw [hwA, hvA, htA]; exact World.ownsRow_nil _ _ _ _
      have HLn : Hid (tsA.length ≤ aA) := by rw [htA]; exact Nat.zero_le _
      rw [← hwA, ← haA] at HD0
      rw [← hwA] at HF0
      rw [← htA, ← haA] at HAr
      rw [← hwA, ← hvA]
      have HFa := HF0
      have HDa := HD0
      clear hwA hvA htA haA HF0 HD0 HR0 q c1
    case' neg =>
      have q : ((kd : Int) != 11) = true := by simp; omega
      have hr2 := HR0.out
      rw [if_neg (fun e => h11 (HKD.out.symm.trans e))] at hr2
      have HC := hid (nameX R T a0 1 w0 HD0.out)
      have HR1 := hid hr2
      have hfx := pName_fx (by' T) a0 (by rw [by_len]; exact HD0.out.le)
      have HFX := hid hfx
      clear hr2 h11 hfx
      go_wp2_with fail
      refine HC.out.mono ?_
      intro e w1 he
      have hr2 := HR1.out
      rcases Res.three (pName (by' T) a0) with ⟨x, a1, ht⟩ | ⟨er, at', ht⟩ | ht
      rotate_left
      · rw [ht] at he hr2
        obtain ⟨h5, rfl, j3, h6⟩ := he
        (try simp only at hr2)
        subst hr2
        refine leave_pnc h6 hl ?_
        exact ⟨(HF0.out.trans h5).set 4 _, rfl, j3, h6.level 0⟩
      · exact absurd ht pName_out
      rw [ht] at he hr2
      obtain ⟨h5, v, rfl, rfl, h6⟩ := he
      unfold namv
      (try simp only at hr2)
      have hfx := HFX.out
      rw [ht] at hfx
      have hF1 := HF0.out.trans h5
      have HAr : Hid (NamR T f r [x] a1) := .inr ⟨by simp, f, Nat.le_refl _, hr2⟩
      have HLn : Hid ([x].length ≤ a1) := by have := hfx.1; show 1 ≤ a1; omega
      have hs0 := HF0.out.size
      have hs1 := hF1.size
      have HF1 := hid hF1
      have HD1 := hid h6
      clear HC h5 h6 hr2 ht hfx HFX HF0 HD0 HR0 HR1 q c1 hF1
      go_wp2_with (at_builtin; refine wpList_append_own_at _ rfl _ _ 79 rfl w.heap.size 78 i0 (.agg #[.string ⟨#[]⟩, .int .i64 0]) 2 24 Tryz.underlying79 HI.out.1 HI.out.2.1 HI.out.2.2.1 HI.out.2.2.2 rfl (by decide) (.slice none 0 0) 0 [] rfl (World.ownsRow_nil _ _ _ _) ⟨w1.heap.size, 0, none⟩ 1 1 [.string (bs x.1), .int .i64 (x.2 : Int)] rfl rfl (cell_two_new _ _ _ _) (by simp [Value.oneCell']) (by simp [maxLen]) (by omega) (by simp; omega) ?_; intro v' w2 hown2 hgrow _ hwhere)
      have hbA : Below w1.heap.size w1 (w1.alloc (.cells #[.string (bs x.1), .int .i64 (x.2 : Int)] 78)) := (Below.refl _ _).alloc (Nat.le_refl _) _
      have HRow : Hid (RowN w.heap.size w2 v' [x]) := hown2
      have hfr2 : Fr R w w2 := (HF1.out.more hbA hlt).grown hgrow (fun k e => by simp [Value.ownBlock] at e) hlt
      have hrd2 : RdAt w2 R T a1 1 := by
        have h7 := HD1.out.below hbA
        exact ⟨(hgrow.block R h7.lt (by simp [Value.ownBlock])).trans h7.h, h7.le, h7.small, by
          obtain ⟨k1, ev, k2, k3⟩ := h7.ev
          exact ⟨k1, ev, hgrow.cell k2 (by simp [Value.ownBlock]), k3⟩⟩
      have HFa := hid hfr2
      have HDa := hid hrd2
      obtain ⟨tsA, htA⟩ : ∃ tsA : List (List UInt8 × Nat), tsA = [x] := ⟨_, rfl⟩
      rw [← htA] at HRow HLn HAr
      clear hbA hown2 hgrow hwhere hfr2 hrd2 htA HF1 HD1 hs0 hs1
    all_goals
      go_loopw [5] (fun v wr => ∃ (ts : List (List UInt8 × Nat)) (a : Nat), Hid (Fr R w wr) ∧ Hid (RdAt wr R T a 1) ∧ Hid (RowN w.heap.size wr v ts) ∧ Hid (ts.length ≤ a) ∧ Hid (NamR T f r ts a)) (fun _ wr => T.size + 1 - rdm R wr)
      case atStart => exact ⟨_, _, HFa, HDa, HRow, HLn, HAr⟩
      case round =>
        obtain ⟨ts, a, hF, hD, hRw, hLn, hAr⟩ := hrel
        obtain ⟨av, cv, rfl⟩ := hRw.out.form
        have c1 : wr.cell? ⟨R, 1, none⟩ = some (.int .i64 ((tok (by' T) a).kind : Int)) := by simp [World.cell?, hD.out.h]
        clear HFa HDa HRow HLn HAr
        have HRD := hid hD.out.rdm
        have HTA := hid (tok_at (by' T) a (by rw [by_len]; exact hD.out.le))
        obtain ⟨ka, hka⟩ : ∃ ka, (tok (by' T) a).kind = ka := ⟨_, rfl⟩
        rw [hka] at c1
        have HKA := hid hka
        obtain ⟨n, hn⟩ : ∃ n, ts.length = n := ⟨_, rfl⟩
        have HN := hid hn
        rw [hn] at hRw ⊢
        by_cases hc : ts ≠ [] ∧ ka = 12
        · have hnp : 0 < n := by rw [← hn]; exact List.length_pos_iff.2 hc.1
          have hnp2 : (0 : Int) < (n : Int) := by omega
          have q12 : ((ka : Int) == 12) = true := by rw [hc.2]; rfl
          have HT := hid (take_yes R T a 1 12 wr hD.out (hka.trans hc.2))
          have hgx : ∃ g, g + 1 ≤ f ∧ r = ((pName (by' T) (tok (by' T) a).nx).bind fun x j => pNames (by' T) g (ts ++ [x]) j).bind fun xs a3 => (pTake (by' T) 11 a3).bind fun _ a4 => .ok xs a4 := by
            rcases hAr.out with ⟨h0, _⟩ | ⟨_, g, hg, hr2⟩
            · exact absurd h0 hc.1
            · cases g with
              | zero => rw [pNames] at hr2; exact absurd hr2 HRO.out
              | succ g => exact ⟨g, hg, by rw [pNames, if_pos (hka.trans hc.2)] at hr2; exact hr2⟩
          obtain ⟨g, hgf, hr2⟩ := hgx
          have HG := hid hgf
          have HR1 := hid hr2
          have hnxx : (tok (by' T) a).at' + 1 ≤ (tok (by' T) a).nx := HTA.out.2.2.2.1 (by rw [hka, hc.2]; decide)
          have HNX := hid hnxx
          have HDL := hid hD.out.le
          clear hc hka hn hr2 hgf hnp hnxx
          generalize (tok (by' T) a).nx = nx at *
          generalize tokv (tok (by' T) a) = tv at *
          go_wp2_with fail
          refine HT.out.mono ?_
          rintro e w3 ⟨rfl, h3, h4⟩
          have HF3 := hid (hF.out.trans h3)
          have HD3 := hid h4
          have HRw3 := hid (hRw.out.fr h3 hlt)
          have HC := hid (nameX R T nx 1 w3 h4)
          have HFX := hid (pName_fx (by' T) nx (by rw [by_len]; exact h4.le))
          clear h3 h4 HT c1 q12 hF hD hRw
          go_wp2_with fail
          refine HC.out.mono ?_
          intro e w4 he
          have hr2 := HR1.out
          rcases Res.three (pName (by' T) nx) with ⟨x, a1, ht⟩ | ⟨er, at', ht⟩ | ht
          · rw [ht] at he hr2
            obtain ⟨h5, v, rfl, rfl, h6⟩ := he
            unfold namv
            (try simp only [Res.bind] at hr2)
            have hfx := HFX.out
            rw [ht] at hfx
            have hF4 := HF3.out.trans h5
            have hRw4 := HRw3.out.fr h5 hlt
            have hown4 : w4.ownsRow w.heap.size 78 2 (.slice av n cv) ts.length (nmv ts) := hRw4
            have hown3 := HRw3.out
            have hgl : ∀ k, (Value.slice av n cv).ownBlock = some k → w.heap.size ≤ k ∧ k < w3.heap.size := fun k e => hown3.lt k e
            have hownA := hown4.alloc (.cells #[.string (bs x.1), .int .i64 (x.2 : Int)] 78)
            have hAr2 : NamR T f r (ts ++ [x]) a1 := .inr ⟨by simp, g, by have := HG.out; omega, hr2⟩
            have hLn2 : (ts ++ [x]).length ≤ a1 := by
              have h7 := hLn.out
              have h8 := HTA.out.1
              have h9 := hfx.1
              have h10 := HNX.out
              rw [List.length_append]
              show ts.length + 1 ≤ a1
              omega
            have hn4 : n ≤ 4000 := by
              have h7 := hLn.out
              have h8 := HSM.out
              have h9 := HDL.out
              have h10 := HN.out
              omega
            have hs4 := hF4.size
            have HOWN := hid hownA
            have HAr2 := hid hAr2
            have HLn2 := hid hLn2
            have HF4 := hid hF4
            have HD4 := hid h6
            have HGL := hid hgl
            have HN4 := hid hn4
            have HS4 := hid hs4
            have hln : ts.length = n := HN.out
            rw [hln] at HOWN
            have HFX2 := hid hfx
            clear hownA hown4 hAr2 hLn2 hF4 h6 hgl hn4 hs4 hown3 h5 hr2 ht hfx HC HF3 HD3 HRw3 hln hRw4
            go_wp2_with (at_builtin; refine wpList_append_own_at _ rfl _ _ 79 rfl w.heap.size 78 i0 (.agg #[.string ⟨#[]⟩, .int .i64 0]) 2 24 Tryz.underlying79 HI.out.1 HI.out.2.1 HI.out.2.2.1 HI.out.2.2.2 rfl (by decide) (.slice av n cv) n (nmv ts) rfl HOWN.out ⟨w4.heap.size, 0, none⟩ 1 1 [.string (bs x.1), .int .i64 (x.2 : Int)] rfl rfl (cell_two_new _ _ _ _) (by simp [Value.oneCell']) (by have := HN4.out; unfold maxLen; omega) (by have := HN4.out; omega) (by have := HS4.out; simp; omega) ?_; intro v' w5 hown2 hgrow _ hwhere)
            have hbA : Below w4.heap.size w4 (w4.alloc (.cells #[.string (bs x.1), .int .i64 (x.2 : Int)] 78)) := (Below.refl _ _).alloc (Nat.le_refl _) _
            have hnR : some R ≠ (Value.slice av n cv).ownBlock := fun e => by have := (HGL.out R e.symm).1; omega
            have hln : ts.length = n := HN.out
            have hown2' := hown2
            rw [← hln] at hown2'
            have HRow2 : Hid (RowN w.heap.size w5 v' (ts ++ [x])) := by
              unfold Hid RowN
              rw [nmv_app, List.length_append]
              exact hown2'
            have hfr5 : Fr R w w5 := (HF4.out.more hbA hlt).grown hgrow (fun k e => (HGL.out k e).1) hlt
            have hrd5 : RdAt w5 R T a1 1 := by
              have h7 := HD4.out.below hbA
              exact ⟨(hgrow.block R h7.lt hnR).trans h7.h, h7.le, h7.small, by
                obtain ⟨k1, ev, k2, k3⟩ := h7.ev
                exact ⟨k1, ev, hgrow.cell k2 (fun e => by have := (HGL.out _ e.symm).1; simp at this; omega), k3⟩⟩
            have HFa := hid hfr5
            have HDa := hid hrd5
            have hm : T.size + 1 - rdm R w5 < T.size + 1 - rdm R wr := by
              rw [hrd5.rdm, HRD.out]
              have k1 := tok_at (by' T) a1 (by rw [by_len]; exact hrd5.le)
              rw [by_len] at k1
              have k2 := HTA.out
              have k3 := HFX2.out.1
              have k4 := HNX.out
              omega
            have HM := hid hm
            clear hbA hnR hln hown2' hown2 hgrow hwhere hfr5 hrd5 hm
            go_roundw
            case rel => exact ⟨ts ++ [x], a1, HFa, HDa, HRow2, HLn2, HAr2⟩
            case measure => exact HM.out
          · rw [ht] at he hr2
            obtain ⟨h5, rfl, j3, h6⟩ := he
            (try simp only [Res.bind] at hr2)
            subst hr2
            refine leave_pnc h6 hl ?_
            exact ⟨(HF3.out.trans h5).set 4 _, rfl, j3, h6.level 0⟩
          · exact absurd ht pName_out
        · have hr2 : r = (pTake (by' T) 11 a).bind fun _ a4 => .ok ts a4 := by
            rcases hAr.out with ⟨h0, h1⟩ | ⟨h0, g, hg, h1⟩
            · rw [h0]; exact h1
            · cases g with
              | zero => rw [pNames] at h1; exact absurd h1 HRO.out
              | succ g => rw [pNames, if_neg (fun e => hc ⟨h0, hka.symm.trans e⟩)] at h1; exact h1
          have HR1 := hid hr2
          have hq : n = 0 ∨ (0 < n ∧ ((ka : Int) == 12) = false) := by
            rcases Nat.eq_zero_or_pos n with h0 | h0
            · exact .inl h0
            · refine .inr ⟨h0, ?_⟩
              have h5 : ¬ ka = 12 := fun e => hc ⟨fun e2 => by rw [e2] at hn; simp at hn; omega, e⟩
              simp
              omega
          have HT := hid (takeX R T a 1 11 wr hD.out)
          have HRV := hid hRw.out.vl
          clear hc hka hn hr2 hAr
          rcases hq with rfl | ⟨hnp, q12⟩
          case' inr => have hnp2 : (0 : Int) < (n : Int) := by omega
          all_goals
            go_wp2_with fail
            refine HT.out.mono ?_
            intro e w3 he
            have hr2 := HR1.out
            cases ht : pTake (by' T) 11 a with
            | out => exact absurd ht pTake_out
            | bad er at' =>
              rw [ht] at he hr2
              obtain ⟨h5, rfl, j3, h6⟩ := he
              (try simp only [Res.bind] at hr2)
              subst hr2
              refine leave_pnc h6 hl ?_
              exact ⟨(hF.out.trans h5).set 4 _, rfl, j3, h6.level 0⟩
            | ok t3 a3 =>
              rw [ht] at he hr2
              obtain ⟨h5, v, rfl, rfl, h6⟩ := he
              (try simp only [Res.bind] at hr2)
              have HF3 := hid (hF.out.trans h5)
              have HD3 := hid h6
              have HRw3 := hid (hRw.out.fr h5 hlt)
              have HR3 := hid hr2
              clear h5 h6 hr2 ht HT
              go_wp2_with fail
              have hr3 := HR3.out
              subst hr3
              refine leave_ret HD3.out hl (results_tmp rfl _ _ _) ?_
              exact ⟨HF3.out.set 4 _, _, rfl, (HRw3.out.fr ((Fr.refl R _).set 4 _) hlt).vl, HD3.out.level 0⟩

end Go.Proofs.YtlgcmeachjjmgajGreatDoor

namespace Go.Proofs.YtlgcmeachjjmgajGreatDoor
open Go.RowKit

/-- a function as a value -/
def VF (lo : Nat) : World → Value → FnT → Prop := fun w v g => ∃ a c b, v = .agg #[.string (bs g.name), .int .i64 (g.at' : Int), .slice a g.more.length c, .pointer (some ⟨b, 0, none⟩)] ∧ NmR lo w a g.more ∧ PT lo w g.body (.pointer (some ⟨b, 0, none⟩))

set_option maxRecDepth 100000 in
set_option maxHeartbeats 2000000 in
theorem functionX (R : Nat) (T : ByteArray) (f j : Nat) (w : World) (hR : RdAt w R T j 0) (r : Res FnT) (hr : r = pFun (by' T) f j) (hro : r ≠ .out) :
    Calls Tryz.prog 76 #[.pointer (some ⟨R, 0, none⟩)] w (Rx w R T 0 0 (VF w.heap.size) r) := by
  have hmf : ∀ (fn : Go.Fn) (first cap : Array Value) (w : World), (Instr.makeFunc fn first cap).run Tryz.prog w = .ok (.func fn first cap) w := fun _ _ _ _ => rfl
  obtain ⟨V, hV⟩ : ∃ V, V = w.alloc (.cells #[.string ⟨#[]⟩, .int .i64 0, .slice none 0 0, .pointer none] 82) := ⟨_, rfl⟩
  have hb0 : Below w.heap.size w V := by rw [hV]; exact (Below.refl _ _).alloc (Nat.le_refl _) _
  have hv0 : V.heap[w.heap.size]? = some (.cells #[.string ⟨#[]⟩, .int .i64 0, .slice none 0 0, .pointer none] 82 (0, 0)) := by rw [hV]; exact heap_alloc_new w _
  have HT := hid (takeX R T j 0 4 V (hR.below hb0))
  have hlt := hR.lt
  have HB0 := hid hb0
  have HV0 := hid hv0
  have HFV : Hid (Fr R w V) := Fr.below HB0.out (Nat.le_of_lt hlt)
  unfold pFun at hr
  have HR := hid hr
  have HRO := hid hro
  clear hR hb0 hv0 hr hro
  go_enter Tryz.func76, Tryz.ntmps76
  go_wp2_with fail
  rw [← hV]
  clear hV
  refine HT.out.mono ?_
  intro e w1 he
  have hr2 := HR.out
  cases ht : pTake (by' T) 4 j with
  | out => exact absurd ht pTake_out
  | bad er at' =>
    rw [ht] at he hr2
    obtain ⟨h5, rfl, h6⟩ := he
    simp only [Res.bind] at hr2
    subst hr2
    exact ⟨rfl, HFV.out.trans h5, rfl, h6⟩
  | ok t1 a1 =>
    rw [ht] at he hr2
    obtain ⟨h5, v, rfl, rfl, h6⟩ := he
    simp only [Res.bind] at hr2
    have HF1 := hid (HFV.out.trans h5)
    have HD1 := hid h6
    have HR1 := hid hr2
    have HO1 : Hid (w1.heap[w.heap.size]? = some (.cells #[.string ⟨#[]⟩, .int .i64 0, .slice none 0 0, .pointer none] 82 (0, 0))) := (h5.2 _ (Array.getElem?_eq_some_iff.1 HV0.out).1 (by omega)).trans HV0.out
    clear h5 h6 hr2 ht HT HR HFV HV0 HB0
    have HT := hid (nameX R T a1 0 w1 HD1.out)
    go_wp2_with fail
    refine HT.out.mono ?_
    intro e w2 he
    have hr2 := HR1.out
    cases ht : pName (by' T) a1 with
    | out => exact absurd ht pName_out
    | bad er at' =>
      rw [ht] at he hr2
      obtain ⟨h5, rfl, h6⟩ := he
      (try simp only at hr2)
      subst hr2
      exact ⟨rfl, HF1.out.trans h5, rfl, h6⟩
    | ok nm a2 =>
      rw [ht] at he hr2
      obtain ⟨h5, v, rfl, rfl, h6⟩ := he
      (try simp only at hr2)
      have HF2 := hid (HF1.out.trans h5)
      have HD2 := hid h6
      have HR2 := hid hr2
      replace HO1 := hid ((h5.2 _ (Array.getElem?_eq_some_iff.1 HO1.out).1 (by omega)).trans HO1.out)
      have hne : pBrack (by' T) f a2 ≠ .out := fun e => by rw [e] at hr2; exact HRO.out hr2
      have HT := hid (brackX R T f a2 w2 h6 _ rfl hne)
      obtain ⟨s, hs⟩ : ∃ s, s = bs nm.1 := ⟨_, rfl⟩
      have HS := hid hs
      unfold namv
      rw [← hs]
      clear h5 h6 hr2 ht HF1 HD1 HR1 hs
      go_wp2_with fail
      refine HT.out.mono ?_
      intro e w3 he
      have hr2 := HR2.out
      cases ht : pBrack (by' T) f a2 with
      | out => exact absurd ht hne
      | bad er at' =>
        rw [ht] at he hr2
        obtain ⟨h5, rfl, h6⟩ := he
        (try simp only at hr2)
        subst hr2
        exact ⟨rfl, HF2.out.trans h5, rfl, h6⟩
      | ok more a3 =>
        rw [ht] at he hr2
        obtain ⟨h5, v, rfl, ⟨av, cv, rfl, hnm⟩, h6⟩ := he
        (try simp only at hr2)
        have hs2 := HF2.out.size
        obtain ⟨n, hn⟩ : ∃ n, n = more.length := ⟨_, rfl⟩
        have HN := hid hn
        rw [← hn]
        obtain ⟨W3, hW3⟩ : ∃ W3, W3 = w3.alloc (.cells #[.string s, .int .i64 (nm.2 : Int), .slice av n cv, .pointer none] 82) := ⟨_, rfl⟩
        have hbN : Below w3.heap.size w3 W3 := by rw [hW3]; exact (Below.refl _ _).alloc (Nat.le_refl _) _
        have hl3 : W3.heap[w3.heap.size]? = some (.cells #[.string s, .int .i64 (nm.2 : Int), .slice av n cv, .pointer none] 82 (0, 0)) := by rw [hW3]; exact heap_alloc_new w3 _
        obtain ⟨N, hN⟩ : ∃ N, N = w3.heap.size := ⟨_, rfl⟩
        rw [← hN] at hl3
        have hwn : w.heap.size < N := by have := (Array.getElem?_eq_some_iff.1 HO1.out).1; have := h5.size; omega
        have HWN := hid hwn
        have HF3 := hid ((HF2.out.trans h5).more hbN hlt)
        have HD3 := hid (h6.below hbN)
        have HR3 := hid hr2
        have HNM := hid (hnm.keep hs2 (fun b _ hb => hbN.block b hb))
        have HL3 := hid hl3
        have hav : ∀ g, av = some ⟨g, 0, none⟩ → more ≠ [] → w.heap.size < g ∧ g < N := fun g e hm => by
          cases more with
          | nil => exact absurd rfl hm
          | cons x q =>
            obtain ⟨g2, k1, k2, k3, _⟩ := hnm 0 x rfl
            rw [e] at k1
            injection k1 with k1
            injection k1 with k1
            subst k1
            have k4 := World.block_lt_of_cell? _ _ k3
            have k5 := (Array.getElem?_eq_some_iff.1 HO1.out).1
            exact ⟨by omega, by rw [hN]; exact k4⟩
        have HAV := hid hav
        clear hav
        replace HO1 := hid ((hbN.block _ (by have := (Array.getElem?_eq_some_iff.1 HO1.out).1; have := h5.size; omega)).trans ((h5.2 _ (Array.getElem?_eq_some_iff.1 HO1.out).1 (by omega)).trans HO1.out))
        clear h5 h6 hr2 ht HF2 HD2 HR2 HT hnm hbN hs2 hl3 hwn hn
        have HNN := hid hN
        have HW3 := hid hW3
        clear hN hW3
        have HT := hid (takeX R T a3 0 14 W3 HD3.out)
        go_wp2_with fail
        rw [← HNN.out, ← HW3.out]
        clear HW3 HNN
        refine HT.out.mono ?_
        intro e w4 he
        have hr2 := HR3.out
        cases ht : pTake (by' T) 14 a3 with
        | out => exact absurd ht pTake_out
        | bad er at' =>
          rw [ht] at he hr2
          obtain ⟨h5, rfl, h6⟩ := he
          (try simp only at hr2)
          subst hr2
          exact ⟨rfl, HF3.out.trans h5, rfl, h6⟩
        | ok t4 a4 =>
          rw [ht] at he hr2
          obtain ⟨h5, v, rfl, rfl, h6⟩ := he
          (try simp only at hr2)
          have HF4 := hid (HF3.out.trans h5)
          have HD4 := hid h6
          have HR4 := hid hr2
          have hNR : N ≠ R := by have := HWN.out; omega
          replace HO1 := hid ((h5.2 _ (Array.getElem?_eq_some_iff.1 HO1.out).1 (by omega)).trans HO1.out)
          replace HL3 := hid ((h5.2 _ (Array.getElem?_eq_some_iff.1 HL3.out).1 hNR).trans HL3.out)
          replace HNM := hid (HNM.out.keep (Nat.le_refl _) (fun b hb hb2 => h5.2 b hb2 (by omega)))
          have hne : pExpr (by' T) f a4 0 ≠ .out := fun e => by rw [e] at hr2; exact HRO.out hr2
          have HC := hid ((read_all R T f f (Nat.le_refl _)).1 a4 0 w4 h6 (by omega) hne)
          clear h5 h6 hr2 ht HT HF3 HD3 HR3
          go_wp2_with fail
          refine HC.out.mono ?_
          intro e w5 he
          have hr2 := HR4.out
          cases ht : pExpr (by' T) f a4 0 with
          | out => exact absurd ht hne
          | bad er at' =>
            rw [ht] at he hr2
            obtain ⟨h5, rfl, h6⟩ := he
            (try simp only at hr2)
            subst hr2
            exact ⟨rfl, HF4.out.trans h5, rfl, h6⟩
          | ok x a5 =>
            rw [ht] at he hr2
            obtain ⟨h5, v, rfl, hv, h6⟩ := he
            obtain ⟨q, rfl⟩ := hv.form
            (try simp only at hr2)
            have hs4 := HF4.out.size
            have HF5 := hid (HF4.out.trans h5)
            have HD5 := hid h6
            have HR5 := hid hr2
            have HVx : Hid (PT w4.heap.size w5 x (.pointer (some ⟨q, 0, none⟩))) := hv
            have hN4 : N < w4.heap.size := (Array.getElem?_eq_some_iff.1 HL3.out).1
            have HN4 := hid hN4
            have ho5 := (h5.2 _ (Array.getElem?_eq_some_iff.1 HO1.out).1 (by omega)).trans HO1.out
            have hl5 := (h5.2 _ (Array.getElem?_eq_some_iff.1 HL3.out).1 hNR).trans HL3.out
            have HNM5 := hid (HNM.out.keep (Nat.le_refl _) (fun b hb hb2 => h5.2 b hb2 (by omega)))
            have HO5 := hid ho5
            have HL5 := hid hl5
            have hNw : N ≠ w.heap.size := by have := HWN.out; omega
            have l0 : w5.cell? ⟨N, 0, none⟩ = some (.string s) := by simp [World.cell?, hl5]
            have l1 : w5.cell? ⟨N, 1, none⟩ = some (.int .i64 (nm.2 : Int)) := by simp [World.cell?, hl5]
            have l2 : w5.cell? ⟨N, 2, none⟩ = some (.slice av n cv) := by simp [World.cell?, hl5]
            have l3 : w5.cell? ⟨N, 3, none⟩ = some (.pointer none) := by simp [World.cell?, hl5]
            have lf := fun i => frozen_of_row w5 N i _ _ hl5
            have o0 : w5.cell? ⟨w.heap.size, 0, none⟩ = some (.string ⟨#[]⟩) := by simp [World.cell?, ho5]
            have o1 : w5.cell? ⟨w.heap.size, 1, none⟩ = some (.int .i64 0) := by simp [World.cell?, ho5]
            have o2 : w5.cell? ⟨w.heap.size, 2, none⟩ = some (.slice none 0 0) := by simp [World.cell?, ho5]
            have o3 : w5.cell? ⟨w.heap.size, 3, none⟩ = some (.pointer none) := by simp [World.cell?, ho5]
            have of' := fun i => frozen_of_row w5 w.heap.size i _ _ ho5
            clear h5 h6 hr2 ht hv hne HC HO1 HL3 HNM HF4 HD4 HR4 ho5 hl5
            go_wp2_with fail
            obtain ⟨W9, hW9⟩ : ∃ W9, W9 = ((((w5.setCell ⟨N, 3, none⟩ (.pointer (some ⟨q, 0, none⟩))).setCell ⟨w.heap.size, 0, none⟩ (.string s)).setCell ⟨w.heap.size, 1, none⟩ (.int .i64 (nm.2 : Int))).setCell ⟨w.heap.size, 2, none⟩ (.slice av n cv)).setCell ⟨w.heap.size, 3, none⟩ (.pointer (some ⟨q, 0, none⟩)) := ⟨_, rfl⟩
            have hwN := HWN.out
            have hoth : ∀ b, b ≠ N → b ≠ w.heap.size → W9.heap[b]? = w5.heap[b]? := fun b k1 k2 => by
              rw [hW9, heap_setCell_other _ _ _ _ k2, heap_setCell_other _ _ _ _ k2, heap_setCell_other _ _ _ _ k2, heap_setCell_other _ _ _ _ k2, heap_setCell_other _ _ _ _ k1]
            have hrow : W9.heap[w.heap.size]? = some (.cells #[.string s, .int .i64 (nm.2 : Int), .slice av n cv, .pointer (some ⟨q, 0, none⟩)] 82 (0, 0)) := by
              rw [hW9]
              exact heap_setCell_same _ _ 3 _ _ _ (heap_setCell_same _ _ 2 _ _ _ (heap_setCell_same _ _ 1 _ _ _ (heap_setCell_same _ _ 0 _ _ _ ((heap_setCell_other _ _ _ _ (by show w.heap.size ≠ N; omega)).trans HO5.out))))
            have hfr : Fr R w W9 := by
              rw [hW9]
              exact ((((HF5.out.setNew (g := N) (by omega) hlt 3 _).setNew (Nat.le_refl _) hlt 0 _).setNew (Nat.le_refl _) hlt 1 _).setNew (Nat.le_refl _) hlt 2 _).setNew (Nat.le_refl _) hlt 3 _
            have hrd : RdAt W9 R T a5 0 := by
              have h7 := HD5.out
              refine ⟨(hoth R (by omega) (by omega)).trans h7.h, h7.le, h7.small, ?_⟩
              obtain ⟨k1, ev, k2, k3⟩ := h7.ev
              exact ⟨k1, ev, (World.cell?_of_block (a := ⟨3, 0, none⟩) (hoth _ (by show 3 ≠ N; omega) (by show 3 ≠ w.heap.size; omega))).trans k2, k3⟩
            rw [← hW9]
            refine bodyPost_ret (results_cell_row rfl _ _ w.heap.size 82 #[.string s, .int .i64 (nm.2 : Int), .slice av n cv, .pointer (some ⟨q, 0, none⟩)] (0, 0) _ rfl (by exact hrow) Tryz.underlying82 rfl (by kernel_rfl)) rfl ?_
            have hr3 := HR5.out
            subst hr3
            refine ⟨hfr, _, rfl, ⟨av, cv, q, by rw [HS.out, HN.out], fun i y hy => ?_, ?_⟩, hrd⟩
            · obtain ⟨g, k1, k2, k3, k4⟩ := HNM5.out i y hy
              obtain ⟨k5, k6⟩ := HAV.out g k1 (fun e => by rw [e] at hy; simp at hy)
              have k7 := hoth g (by omega) (by omega)
              exact ⟨g, k1, by omega, (World.cell?_of_block (a := ⟨g, i * 2, none⟩) k7).trans k3, (World.cell?_of_block (a := ⟨g, i * 2 + 1, none⟩) k7).trans k4⟩
            · have k1 := HN4.out
              refine PT.mono (PT.keep (fun b k2 _ => hoth b (by omega) (by omega)) _ _ HVx.out) ?_
              omega

end Go.Proofs.YtlgcmeachjjmgajGreatDoor

namespace Go.Proofs.YtlgcmeachjjmgajGreatDoor
open Go.RowKit

def NmB (B : Nat → Prop) (w : World) (a : Option Addr) (ts : List (List UInt8 × Nat)) : Prop := ∀ (i : Nat) x, ts[i]? = some x → ∃ g, a = some ⟨g, 0, none⟩ ∧ B g ∧ w.cell? ⟨g, i * 2, none⟩ = some (.string (bs x.1)) ∧ w.cell? ⟨g, i * 2 + 1, none⟩ = some (.int .i64 (x.2 : Int))
theorem NmB.keep {B B' : Nat → Prop} {w w' : World} {a : Option Addr} {ts : List (List UInt8 × Nat)} (h : NmB B w a ts) (hk : ∀ b, B b → b < w.heap.size → B' b ∧ w'.heap[b]? = w.heap[b]?) : NmB B' w' a ts := fun i x hx => by
  obtain ⟨g, h1, h2, h3, h4⟩ := h i x hx
  obtain ⟨k1, k2⟩ := hk g h2 (World.block_lt_of_cell? _ _ h3)
  exact ⟨g, h1, k1, (World.cell?_of_block (a := ⟨g, i * 2, none⟩) k2).trans h3, (World.cell?_of_block (a := ⟨g, i * 2 + 1, none⟩) k2).trans h4⟩
/-- a function's four cells -/
def FnB (B : Nat → Prop) (w : World) (xs : List Value) (i : Nat) (g : FnT) : Prop := ∃ a c b, xs[i * 4]? = some (.string (bs g.name)) ∧ xs[i * 4 + 1]? = some (.int .i64 (g.at' : Int)) ∧ xs[i * 4 + 2]? = some (.slice a g.more.length c) ∧ xs[i * 4 + 3]? = some (.pointer (some ⟨b, 0, none⟩)) ∧ NmB B w a g.more ∧ PTB B w g.body (.pointer (some ⟨b, 0, none⟩))
theorem FnB.keep {B B' : Nat → Prop} {w w' : World} {xs : List Value} {i : Nat} {g : FnT} (h : FnB B w xs i g) (hk : ∀ b, B b → b < w.heap.size → B' b ∧ w'.heap[b]? = w.heap[b]?) : FnB B' w' xs i g := by
  obtain ⟨a, c, b, h1, h2, h3, h4, h5, h6⟩ := h
  exact ⟨a, c, b, h1, h2, h3, h4, h5.keep hk, PTB.keep hk _ _ h6⟩
def FnRow (base : Nat) (w : World) (v : Value) (fs : List FnT) : Prop := ∃ xs : List Value, w.ownsRow base 82 4 v fs.length xs ∧ ∀ (i : Nat) g, fs[i]? = some g → FnB (fun b => base ≤ b ∧ some b ≠ v.ownBlock) w xs i g
theorem FnRow.fr {R base : Nat} {w w' : World} {v : Value} {fs : List FnT} (h : FnRow base w v fs) (f : Fr R w w') (hb : R < base) : FnRow base w' v fs := by
  obtain ⟨xs, h1, h2⟩ := h
  exact ⟨xs, ownsRow_fr h1 f hb, fun i g hg => (h2 i g hg).keep (fun b hB hl => ⟨hB, f.2 b hl (by omega)⟩)⟩
theorem FnRow.form {base : Nat} {w : World} {v : Value} {fs : List FnT} (h : FnRow base w v fs) : ∃ a c, v = .slice a fs.length c := by
  obtain ⟨xs, h1, _⟩ := h
  rcases h1.2 with ⟨rfl, h0⟩ | ⟨g, cap, cur, rfl, _⟩
  · exact ⟨none, 0, by rw [h0]⟩
  · exact ⟨_, _, rfl⟩
theorem FnRow.push {base : Nat} {W w2 : World} {v v' : Value} {fs : List FnT} {g : FnT} {a : Option Addr} {c b : Nat} {xs : List Value} (h1 : W.ownsRow base 82 4 v fs.length xs) (h2 : ∀ (i : Nat) g, fs[i]? = some g → FnB (fun b => base ≤ b ∧ some b ≠ v.ownBlock) W xs i g)
    (hn : NmB (fun b => base ≤ b ∧ some b ≠ v.ownBlock) W a g.more) (hp : PTB (fun b => base ≤ b ∧ some b ≠ v.ownBlock) W g.body (.pointer (some ⟨b, 0, none⟩)))
    (ho : w2.ownsRow base 82 4 v' (fs.length + 1) (xs ++ [.string (bs g.name), .int .i64 (g.at' : Int), .slice a g.more.length c, .pointer (some ⟨b, 0, none⟩)])) (hg : W.grownBy w2 v.ownBlock) (hw : v'.ownBlock = v.ownBlock ∨ v'.ownBlock = some W.heap.size) : FnRow base w2 v' (fs ++ [g]) := by
  have hk : ∀ b, (base ≤ b ∧ some b ≠ v.ownBlock) → b < W.heap.size → (base ≤ b ∧ some b ≠ v'.ownBlock) ∧ w2.heap[b]? = W.heap[b]? := fun b hB hl => by
    refine ⟨⟨hB.1, ?_⟩, hg.block b hl hB.2⟩
    rcases hw with e | e
    · rw [e]; exact hB.2
    · rw [e]; intro e2; injection e2; omega
  have hlen : xs.length = fs.length * 4 := h1.1
  refine ⟨_, by rw [List.length_append]; exact ho, fun i x hx => ?_⟩
  rcases Nat.lt_or_ge i fs.length with hi | hi
  · rw [List.getElem?_append_left hi] at hx
    obtain ⟨a', c', b', k1, k2, k3, k4, k5, k6⟩ := (h2 i x hx).keep hk
    exact ⟨a', c', b', by rw [List.getElem?_append_left (by omega)]; exact k1, by rw [List.getElem?_append_left (by omega)]; exact k2, by rw [List.getElem?_append_left (by omega)]; exact k3, by rw [List.getElem?_append_left (by omega)]; exact k4, k5, k6⟩
  · have hi2 : i = fs.length := by
      have : i < (fs ++ [g]).length := (List.getElem?_eq_some_iff.1 hx).1
      simp at this
      omega
    subst hi2
    simp at hx
    subst hx
    have e : ∀ j, (xs ++ [.string (bs g.name), .int .i64 (g.at' : Int), .slice a g.more.length c, .pointer (some ⟨b, 0, none⟩)])[fs.length * 4 + j]? = [Value.string (bs g.name), .int .i64 (g.at' : Int), .slice a g.more.length c, .pointer (some ⟨b, 0, none⟩)][j]? := fun j => by
      rw [List.getElem?_append_right (by omega), show fs.length * 4 + j - xs.length = j by omega]
    exact ⟨a, c, b, e 0, e 1, e 2, e 3, hn.keep hk, PTB.keep hk _ _ hp⟩
/-- functions in memory -/
def FnR (lo : Nat) (w : World) (a : Option Addr) (fs : List FnT) : Prop := ∀ (i : Nat) g, fs[i]? = some g → ∃ k a2 c b, a = some ⟨k, 0, none⟩ ∧ lo ≤ k ∧ w.cell? ⟨k, i * 4, none⟩ = some (.string (bs g.name)) ∧ w.cell? ⟨k, i * 4 + 1, none⟩ = some (.int .i64 (g.at' : Int)) ∧ w.cell? ⟨k, i * 4 + 2, none⟩ = some (.slice a2 g.more.length c) ∧ w.cell? ⟨k, i * 4 + 3, none⟩ = some (.pointer (some ⟨b, 0, none⟩)) ∧ NmR lo w a2 g.more ∧ PT lo w g.body (.pointer (some ⟨b, 0, none⟩))
theorem FnRow.vl {base : Nat} {w : World} {v : Value} {fs : List FnT} (h : FnRow base w v fs) : ∃ a c, v = .slice a fs.length c ∧ (fs.length ≤ c ∧ c ≤ maxLen) ∧ FnR base w a fs := by
  obtain ⟨xs, h1, h2⟩ := h
  rcases h1.2 with ⟨rfl, h0⟩ | ⟨k, cap, cur, rfl, hbs, _, hcap, hcm, _⟩
  · obtain rfl : fs = [] := List.length_eq_zero_iff.1 h0
    exact ⟨none, 0, rfl, ⟨Nat.le_refl _, Nat.zero_le _⟩, fun i x hx => by simp at hx⟩
  · refine ⟨_, _, rfl, ⟨hcap, hcm⟩, fun i g hg => ?_⟩
    obtain ⟨a2, c, b, k1, k2, k3, k4, k5, k6⟩ := h2 i g hg
    have hadd : ∀ j, (⟨k, 0, none⟩ : Addr).add j = ⟨k, j, none⟩ := fun j => by unfold Addr.add; split <;> simp_all
    have e1 := h1.cells (g := k) rfl _ _ k1
    have e2 := h1.cells (g := k) rfl _ _ k2
    have e3 := h1.cells (g := k) rfl _ _ k3
    have e4 := h1.cells (g := k) rfl _ _ k4
    rw [hadd] at e1 e2 e3 e4
    exact ⟨k, a2, c, b, rfl, hbs, e1, e2, e3, e4, NmB.keep k5 (fun b hB _ => ⟨hB.1, rfl⟩), PTB.keep (fun b hB _ => ⟨hB.1, rfl⟩) _ _ k6⟩
theorem cell_four_new (w : World) (x y z u : Value) (t : TypeId) : ∀ j v, [x, y, z, u][j]? = some v → (w.alloc (.cells #[x, y, z, u] t)).cell? ((⟨w.heap.size, 0, none⟩ : Addr).add j) = some v := by
  intro j v hj
  have hadd : (⟨w.heap.size, 0, none⟩ : Addr).add j = ⟨w.heap.size, j, none⟩ := by unfold Addr.add; split <;> simp_all
  rw [hadd]
  unfold World.cell?
  rw [heap_alloc_new]
  match j, hj with
  | 0, hj => simpa using hj
  | 1, hj => simpa using hj
  | 2, hj => simpa using hj
  | 3, hj => simpa using hj
  | n + 4, hj => simp at hj

end Go.Proofs.YtlgcmeachjjmgajGreatDoor

namespace Go.Proofs.YtlgcmeachjjmgajGreatDoor
open Go.RowKit Go.Maps

/-- keys of a map to numbers, as values -/
structure KI {κ : Type} (k t : TypeId) (enc : κ → Value) (ok : κ → Prop) : Prop where
  keyed : Keyed Tryz.prog k
  und : Tryz.prog.underlying t = some (.map k 3)
  has : ∀ x, ok x → ∃ l, keyOf Tryz.prog k (enc x) = some l
  inj : ∀ x y, enc x = enc y → x = y
/-- a map to numbers -/
def MapI {κ : Type} (enc : κ → Value) (ok : κ → Prop) (w : World) (B : Nat) (M : κ → Option Int) : Prop :=
  ∃ es clock, w.heap[B]? = some (.map es clock) ∧ (∀ e ∈ es.toList, ∃ x n, e.key = enc x ∧ ok x ∧ M x = some n ∧ e.val = .int .i64 n) ∧ (∀ x n, M x = some n → ∃ e ∈ es.toList, e.key = enc x) ∧ es.toList.Pairwise (fun x y => x.key ≠ y.key)
def updI {κ : Type} [DecidableEq κ] (M : κ → Option Int) (x : κ) (n : Int) : κ → Option Int := fun y => if y = x then some n else M y
section
variable {κ : Type} {k t : TypeId} {enc : κ → Value} {ok : κ → Prop} {w w' : World} {B : Nat} {M : κ → Option Int}
theorem MapI.lt (h : MapI enc ok w B M) : B < w.heap.size := by
  obtain ⟨es, clock, hb, _⟩ := h
  exact (Array.getElem?_eq_some_iff.1 hb).1
theorem MapI.block (h : MapI enc ok w B M) (e : w'.heap[B]? = w.heap[B]?) : MapI enc ok w' B M := by
  obtain ⟨es, clock, hb, r⟩ := h
  exact ⟨es, clock, e.trans hb, r⟩
theorem MapI.below (h : MapI enc ok w B M) (e : Below w.heap.size w w') : MapI enc ok w' B M := h.block (e.block B h.lt)
theorem MapI.new (w : World) : MapI enc ok (w.alloc (.map #[] 0)) w.heap.size (fun _ => none) := ⟨#[], 0, (MapKept.heap_alloc w _).1, by simp, by simp, by simp⟩
/-- what a look-up finds -/
theorem MapI.find (K : KI k t enc ok) {x : κ} (hx : ok x) {es : Array MapEntry}
    (h1 : ∀ e ∈ es.toList, ∃ x n, e.key = enc x ∧ ok x ∧ M x = some n ∧ e.val = .int .i64 n) (h2 : ∀ x n, M x = some n → ∃ e ∈ es.toList, e.key = enc x) :
    (M x = none ∧ (Instr.findKey k (enc x) es.toList).run Tryz.prog w = .ok none w ∧ ∀ e ∈ es.toList, e.key ≠ enc x) ∨ ∃ n j e, M x = some n ∧ (Instr.findKey k (enc x) es.toList).run Tryz.prog w = .ok (some (j, .int .i64 n)) w ∧ es.toList[j]? = some e ∧ e.key = enc x := by
  obtain ⟨l, hl⟩ := K.has x hx
  rcases K.keyed.find w hl es.toList (fun e he => by obtain ⟨y, n, hk, hy, _⟩ := h1 e he; rw [hk]; exact K.has y hy) with ⟨r1, r2⟩ | ⟨j, e, r1, r2, r3⟩
  · left
    refine ⟨?_, r1, r2⟩
    cases hM : M x with
    | none => rfl
    | some d =>
      obtain ⟨e, he, hk⟩ := h2 x d hM
      exact absurd hk (r2 e he)
  · right
    obtain ⟨y, n, hk, hy, hM, hv⟩ := h1 e (List.mem_of_getElem? r2)
    obtain rfl := K.inj _ _ (hk.symm.trans r3)
    exact ⟨n, j, e, hM, by rw [r1, hv], r2, r3⟩
theorem zero_iS (w : World) : (zeroValue 3).run Tryz.prog w = .ok (.int .i64 0) w := by kernel_rfl
theorem MapI.lookup (K : KI k t enc ok) (h : MapI enc ok w B M) {x : κ} (hx : ok x) (c : Bool) :
    (Instr.lookup t (.map (some B)) (enc x) c).run Tryz.prog w = .ok (if c then .tuple #[.int .i64 ((M x).getD 0), .bool (M x).isSome] else .int .i64 ((M x).getD 0)) w := by
  obtain ⟨es, clock, hB, h1, h2, _⟩ := h
  obtain ⟨l, hl⟩ := K.has x hx
  have hck := K.keyed.check w es.isEmpty hl
  have hz := zero_iS w
  rcases MapI.find (w := w) K hx h1 h2 with ⟨hM, hf, _⟩ | ⟨d, j, e, hM, hf, _, _⟩
  · cases c <;> simp [Instr.lookup, run_underlying K.und, Result.andThen, MapKept.run_getObj_map hB, hck, hf, hM, hz]
  · cases c <;> simp [Instr.lookup, run_underlying K.und, Result.andThen, MapKept.run_getObj_map hB, hck, hf, hM]
theorem MapI.update [DecidableEq κ] (K : KI k t enc ok) (h : MapI enc ok w B M) {x : κ} (hx : ok x) (n : Int) :
    ∃ w', (Instr.mapUpdate t (.map (some B)) (enc x) (.int .i64 n)).run Tryz.prog w = .ok () w' ∧ MapI enc ok w' B (updI M x n) ∧ w.grownBy w' (some B) := by
  obtain ⟨es, clock, hB, h1, h2, h3⟩ := h
  obtain ⟨l, hl⟩ := K.has x hx
  have hck := K.keyed.check w false hl
  have hst := K.keyed.stays w hl
  have hgr : ∀ o : Obj, w.grownBy { w with heap := w.heap.setIfInBounds B o } (some B) := fun o => ⟨rfl, rfl, rfl, by simp, fun k _ hk => (MapKept.heap_set hB).2 k (fun e => hk (by rw [e]))⟩
  rcases MapI.find (w := w) K hx h1 h2 with ⟨hM, hf, hne⟩ | ⟨d0, j, e, hM, hf, hj, hk⟩
  · refine ⟨_, by simp [Instr.mapUpdate, run_underlying K.und, Result.andThen, MapKept.run_getObj_map hB, hck, hf, MapKept.run_setObj_map _ hB]; rfl, ⟨_, _, (MapKept.heap_set hB).1, ?_, ?_, ?_⟩, hgr _⟩
    · intro e he
      simp only [Array.toList_push, List.mem_append, List.mem_singleton] at he
      rcases he with he | rfl
      · obtain ⟨y, d', hk, hy, hM', hv⟩ := h1 e he
        refine ⟨y, d', hk, hy, ?_, hv⟩
        unfold updI
        rw [if_neg (fun hc => by rw [hc, hM] at hM'; cases hM')]
        exact hM'
      · exact ⟨x, n, rfl, hx, by simp [updI], rfl⟩
    · intro y d' hM'
      simp only [Array.toList_push, List.mem_append, List.mem_singleton]
      by_cases hc : y = x
      · exact ⟨_, .inr rfl, by rw [hc]⟩
      · unfold updI at hM'
        rw [if_neg hc] at hM'
        obtain ⟨e, he, hk⟩ := h2 y d' hM'
        exact ⟨e, .inl he, hk⟩
    · simp only [Array.toList_push]
      rw [List.pairwise_append]
      exact ⟨h3, by simp, fun x hx y hy => by rw [List.mem_singleton.1 hy]; exact hne x hx⟩
  · have hes : es[j]? = some e := by simpa using hj
    have hjl : j < es.size := (Array.getElem?_eq_some_iff.1 hes).1
    have hm : (es.modify j fun e => { e with key := enc x, val := .int .i64 n }).toList = es.toList.set j { e with key := enc x, val := .int .i64 n } := by
      apply List.ext_getElem?
      intro i
      rw [← Array.getElem?_toList.symm]
      rw [List.getElem?_set]
      simp only [Array.getElem?_modify]
      by_cases hi : j = i
      · subst hi
        rw [if_pos rfl, if_pos rfl, hes]
        simp [hjl]
      · rw [if_neg hi, if_neg hi]
        simp
    refine ⟨_, by simp [Instr.mapUpdate, run_underlying K.und, Result.andThen, MapKept.run_getObj_map hB, hck, hf, hes, hk, hst, MapKept.run_setObj_map _ hB]; rfl, ⟨_, _, (MapKept.heap_set hB).1, ?_, ?_, ?_⟩, hgr _⟩
    · intro e' he'
      rw [hm] at he'
      obtain ⟨i, hi⟩ := List.getElem?_of_mem he'
      rw [List.getElem?_set] at hi
      by_cases hij : j = i
      · rw [if_pos hij] at hi
        split at hi
        · cases hi
          exact ⟨x, n, rfl, hx, by simp [updI], rfl⟩
        · cases hi
      · rw [if_neg hij] at hi
        obtain ⟨y, d', hk', hy, hM', hv⟩ := h1 e' (List.mem_of_getElem? hi)
        refine ⟨y, d', hk', hy, ?_, hv⟩
        unfold updI
        rw [if_neg]
        · exact hM'
        · rintro rfl
          have := List.pairwise_iff_getElem.1 h3
          obtain ⟨hjl', hje⟩ := List.getElem?_eq_some_iff.1 hj
          obtain ⟨hil', hie⟩ := List.getElem?_eq_some_iff.1 hi
          rcases Nat.lt_or_gt_of_ne hij with hlt' | hlt'
          · exact this j i hjl' hil' hlt' (by rw [hje, hie, hk, hk'])
          · exact this i j hil' hjl' hlt' (by rw [hje, hie, hk, hk'])
    · intro y d' hM'
      rw [hm]
      have hjl' : j < es.toList.length := (List.getElem?_eq_some_iff.1 hj).1
      by_cases hc : y = x
      · exact ⟨_, List.mem_iff_getElem?.2 ⟨j, by rw [List.getElem?_set, if_pos rfl, if_pos hjl']⟩, by rw [hc]⟩
      · unfold updI at hM'
        rw [if_neg hc] at hM'
        obtain ⟨e', he', hk'⟩ := h2 y d' hM'
        obtain ⟨i, hi⟩ := List.getElem?_of_mem he'
        refine ⟨e', List.mem_iff_getElem?.2 ⟨i, ?_⟩, hk'⟩
        rw [List.getElem?_set, if_neg]
        · exact hi
        · rintro rfl
          rw [hi] at hj
          cases hj
          exact hc (K.inj _ _ (hk'.symm.trans hk))
    · rw [hm]
      rw [List.pairwise_iff_getElem]
      intro i i' hi hi' hlt'
      have := List.pairwise_iff_getElem.1 h3
      obtain ⟨hjl', hje⟩ := List.getElem?_eq_some_iff.1 hj
      rw [List.length_set] at hi hi'
      have t := this i i' hi hi' hlt'
      rw [List.getElem_set, List.getElem_set]
      by_cases e1 : j = i
      · subst e1
        rw [if_pos rfl, if_neg (by omega)]
        rw [hje, hk] at t
        exact t
      · rw [if_neg e1]
        by_cases e2 : j = i'
        · subst e2
          rw [if_pos rfl]
          rw [hje, hk] at t
          exact t
        · rw [if_neg e2]
          exact t
theorem wpList_updateI [DecidableEq κ] {ops : Array Oper} {rest : List Oper} {o : Oper} {act : Act} {Q : Exit → Act → World → Prop} (K : KI k t enc ok) (w : World) (hg : o.guard = none) (m x v : Operand) (hop : o.op = Op.mapUpdate t m x v) (B : Nat) (M : κ → Option Int)
    (hm : act.eval m = .map (some B)) (hown : MapI enc ok w B M) (y : κ) (n : Int) (hx : act.eval x = enc y) (hv : act.eval v = .int .i64 n) (hy : ok y)
    (hK : ∀ w', MapI enc ok w' B (updI M y n) → w.grownBy w' (some B) → wpList Tryz.prog ops Q rest (act.put o.dst undef) w') : wpList Tryz.prog ops Q (o :: rest) act w := by
  refine wpList_plain hg fun K' hK' => ?_
  obtain ⟨w', hrun, r1, r2⟩ := hown.update K hy n
  unfold Oper.wp
  simp [execOp, hop, hm, hx, hv, hrun, Result.andThen]
  exact hK' _ _ (hK w' r1 r2)
end
/-! ## a function's name and how many names it has in brackets -/
def sgk (x : List UInt8 × Nat) : Value := .agg #[.string (bs x.1), .int .i64 (x.2 : Int)]
def sgo (x : List UInt8 × Nat) : Prop := x.1.length ≤ 4000 ∧ x.2 ≤ 4000
theorem sig_law : WideMaps.KeyLaw Tryz.prog 191 := deep_law_laid (by kernel_rfl) (m := 3) (by omega) (of_decide_eq_true (by kernel_rfl)) (by kernel_rfl) (by rw [Tryz.underlying191])
theorem keyLits_intS (d : Nat) {x : Int} (h1 : -9223372036854775808 ≤ x) (h2 : x ≤ 9223372036854775807) : Tryz.prog.keyLits (d + 1) 3 [.int .i64 x] = some [.int .i64 x] := by
  simp [Program.keyLits, Tryz.underlying3, WalkArith.wf_i64 ⟨h1, h2⟩]
theorem keyLits_strS (d : Nat) (s : ByteArray) (hs : s.size ≤ 4000) : Tryz.prog.keyLits (d + 1) 9 [.string s] = some [.string s.data.toList] := by
  have : s.size ≤ maxLen := by unfold maxLen; omega
  simp [Program.keyLits, Tryz.underlying9, this]
theorem sig_has (x : List UInt8 × Nat) (h : sgo x) : ∃ l, keyOf Tryz.prog 191 (sgk x) = some l := by
  obtain ⟨n, hn⟩ : ∃ n, Tryz.prog.types.size = n + 1 := ⟨Tryz.prog.types.size - 1, by have : 0 < Tryz.prog.types.size := of_decide_eq_true (by kernel_rfl); omega⟩
  have e1 := keyLits_strS n (bs x.1) (by rw [bs_size]; exact h.1)
  have e2 := keyLits_intS n (x := (x.2 : Int)) (by omega) (by have := h.2; omega)
  have k1 : Tryz.prog.keyType 191 = true := by kernel_rfl
  have k2 : Tryz.prog.cellsOf 191 = 2 := by kernel_rfl
  have k3 : Tryz.prog.cellsOf 3 = 1 := by kernel_rfl
  have k4 : Tryz.prog.cellsOf 9 = 1 := by kernel_rfl
  refine ⟨.string (keyBytes [.string (bs x.1).data.toList, .int .i64 (x.2 : Int)]), ?_⟩
  simp only [keyOf, Tryz.underlying191, k1, hn]
  rw [show (sgk x).formed Tryz.prog 191 = true by simp [sgk, Value.formed, Tryz.underlying191, k2]]
  have e3 : Tryz.prog.keyLits (n + 1 + 1) 191 [.string (bs x.1), .int .i64 (x.2 : Int)] = some [.string (bs x.1).data.toList, .int .i64 (x.2 : Int)] := by
    unfold Program.keyLits
    simp only [Tryz.underlying191]
    simp [k2, k3, k4, e1, e2]
  rw [show (sgk x).cells.toList = [.string (bs x.1), .int .i64 (x.2 : Int)] from rfl, e3]
  rfl
theorem sgk_inj (x y : List UInt8 × Nat) (h : sgk x = sgk y) : x = y := by
  unfold sgk at h
  simp only [Value.agg.injEq, Array.mk.injEq, List.cons.injEq, Value.int.injEq, Value.string.injEq] at h
  obtain ⟨h1, ⟨_, h2⟩, _⟩ := h
  have h3 := bs_inj h1
  cases x
  cases y
  simp only [Prod.mk.injEq] at h3 ⊢
  exact ⟨h3, by simp at h2; omega⟩
theorem sigK : KI 191 189 sgk sgo := ⟨Keyed.of_law sig_law, Tryz.underlying189, sig_has, sgk_inj⟩
/-! ## a name -/
def nmk (x : List UInt8) : Value := .string (bs x)
theorem namK : KI 9 76 nmk (fun x => x.length ≤ 4000) := ⟨string_keyed Tryz.underlying9, Tryz.underlying76, fun x hx => ⟨_, Go.WideMaps.keyOf_string_mk Tryz.underlying9 (by rw [bs_size]; unfold maxLen; omega)⟩, fun x y h => bs_inj (by unfold nmk at h; injection h)⟩

end Go.Proofs.YtlgcmeachjjmgajGreatDoor

namespace Go.Proofs.YtlgcmeachjjmgajGreatDoor
open Go.RowKit

/-- names that stand for something, in memory: the newest first -/
def ScP (w : World) : Value → List (List UInt8 × Int) → Prop
  | v, [] => v = .pointer none
  | v, x :: r => ∃ b u, v = .pointer (some ⟨b, 0, none⟩) ∧ w.heap[b]? = some (.cells #[.string (bs x.1), .int .i64 x.2, u] 208 (0, 0)) ∧ ScP w u r
theorem ScP.below {w w' : World} (hb : Below w.heap.size w w') : ∀ {v : Value} {l : List (List UInt8 × Int)}, ScP w v l → ScP w' v l
  | _, [], h => h
  | _, x :: r, h => by
    obtain ⟨b, u, h1, h2, h3⟩ := h
    exact ⟨b, u, h1, (hb.block _ (Array.getElem?_eq_some_iff.1 h2).1).trans h2, ScP.below hb h3⟩
theorem ScP.same {w : World} : ∀ {v : Value} {l m : List (List UInt8 × Int)}, ScP w v l → ScP w v m → l.length = m.length
  | _, [], [], _, _ => rfl
  | _, [], y :: s, h, k => by
    obtain ⟨b, u, h1, _⟩ := k
    have h' : _ = Value.pointer none := h
    rw [h'] at h1
    injection h1 with h1
    cases h1
  | _, x :: r, [], h, k => by
    obtain ⟨b, u, h1, _⟩ := h
    have k' : _ = Value.pointer none := k
    rw [k'] at h1
    injection h1 with h1
    cases h1
  | _, x :: r, y :: s, h, k => by
    obtain ⟨b, u, h1, h2, h3⟩ := h
    obtain ⟨c, t, k1, k2, k3⟩ := k
    rw [h1] at k1
    injection k1 with k1
    injection k1 with k1
    injection k1 with k1
    subst k1
    rw [h2] at k2
    injection k2 with k2
    injection k2 with k2
    simp only [Array.mk.injEq, List.cons.injEq] at k2
    obtain ⟨_, _, e, _⟩ := k2
    subst e
    simp [ScP.same h3 k3]
open Classical in
/-- how many they are -/
noncomputable def scl (w : World) (v : Value) : Nat := if h : ∃ l, ScP w v l then (Classical.choose h).length else 0
theorem scl_eq {w : World} {v : Value} {l : List (List UInt8 × Int)} (h : ScP w v l) : scl w v = l.length := by
  unfold scl
  have hx : ∃ l, ScP w v l := ⟨l, h⟩
  rw [dif_pos hx]
  exact ScP.same (Classical.choose_spec hx) h
theorem ScP.form {w : World} : ∀ {v : Value} {l : List (List UInt8 × Int)}, ScP w v l → ∃ a, v = .pointer a
  | _, [], h => ⟨none, h⟩
  | _, x :: r, h => by obtain ⟨b, u, h1, _⟩ := h; exact ⟨_, h1⟩
/-- where a name stands for something -/
def ScF (w : World) (e : Value) : Option (List UInt8 × Int) → Prop
  | none => e = .pointer none
  | some x => ∃ b u, e = .pointer (some ⟨b, 0, none⟩) ∧ w.heap[b]? = some (.cells #[.string (bs x.1), .int .i64 x.2, u] 208 (0, 0))

set_option maxRecDepth 100000 in
set_option maxHeartbeats 1000000 in
theorem find_any (nm : List UInt8) (v : Value) (l : List (List UInt8 × Int)) (w : World) (h : ScP w v l) :
    Calls Tryz.prog 92 #[v, .string (bs nm)] w fun e w' => w' = w ∧ ∃ u, e = .returned u ∧ ScF w u (l.find? (fun x => x.1 == nm)) := by
  obtain ⟨a, rfl⟩ := h.form
  have HL := hid h
  obtain ⟨q, hq⟩ : ∃ q, q = l.find? (fun x => x.1 == nm) := ⟨_, rfl⟩
  have HQ := hid hq
  rw [← hq]
  clear h hq
  obtain ⟨s, hs⟩ : ∃ s, s = bs nm := ⟨_, rfl⟩
  have HS : Hid (s.toList = nm) := by unfold Hid; rw [hs]; exact bs_list nm
  rw [← hs]
  clear hs
  go_enter Tryz.func92, Tryz.ntmps92
  go_wp2_with fail
  go_loop [0] (fun v => ∃ (r : List (List UInt8 × Int)), Hid (ScP w v r) ∧ Hid (q = r.find? (fun x => x.1 == nm))) (fun v => scl w v)
  case atStart => exact ⟨l, HL, HQ⟩
  case round =>
    obtain ⟨r, hr, hqr⟩ := hrel
    cases r with
    | nil =>
      have e1 : _ = Value.pointer none := hr.out
      subst e1
      go_wp2_with fail
      go_ret
      refine ⟨rfl, _, rfl, ?_⟩
      have hq2 := hqr.out
      simp at hq2
      subst hq2
      rfl
    | cons x r =>
      obtain ⟨b, u, rfl, h2, h3⟩ := hr.out
      have c0 : w.cell? ⟨b, 0, none⟩ = some (.string (bs x.1)) := by simp [World.cell?, h2]
      have c2 : w.cell? ⟨b, 2, none⟩ = some u := by simp [World.cell?, h2]
      have H2 := hid h2
      have H3 := hid h3
      have hls := bs_list x.1
      have hsl := HS.out
      have HSC := hid (scl_eq hr.out)
      obtain ⟨a2, rfl⟩ := h3.form
      clear h2 h3
      by_cases hx : x.1 = nm
      · have t1 : (x.1 == nm) = true := by simpa using hx
        have HX := hid hx
        clear hx
        go_wp2_with fail
        go_ret
        refine ⟨rfl, _, rfl, ?_⟩
        have hq2 := hqr.out
        rw [List.find?_cons, show (x.1 == nm) = true by simpa using HX.out] at hq2
        subst hq2
        exact ⟨b, _, rfl, H2.out⟩
      · have t1 : (x.1 == nm) = false := by simpa using hx
        have HX := hid hx
        clear hx
        go_wp2_with fail
        go_round
        case rel =>
          refine ⟨r, H3, ?_⟩
          have hq2 := hqr.out
          rw [List.find?_cons, show (x.1 == nm) = false by simpa using HX.out] at hq2
          exact hq2
        case measure =>
          rw [HSC.out, scl_eq H3.out]
          simp
theorem with_any (nm : ByteArray) (n : Int) (a : Option Addr) (w : World) : Calls Tryz.prog 58 #[.pointer a, .string nm, .int .i64 n] w fun e w' => e = .returned (.pointer (some ⟨w.heap.size, 0, none⟩)) ∧ w' = w.alloc (.cells #[.string nm, .int .i64 n, .pointer a] 208) := by
  go_enter Tryz.func58, Tryz.ntmps58
  go_wp2_with fail
  go_ret
  exact ⟨rfl, rfl⟩
theorem ScP.with {w : World} {a : Option Addr} {l : List (List UInt8 × Int)} (h : ScP w (.pointer a) l) (nm : List UInt8) (n : Int) : ScP (w.alloc (.cells #[.string (bs nm), .int .i64 n, .pointer a] 208)) (.pointer (some ⟨w.heap.size, 0, none⟩)) ((nm, n) :: l) :=
  ⟨w.heap.size, .pointer a, rfl, heap_alloc_new w _, h.below ((Below.refl _ _).alloc (Nat.le_refl _) _)⟩

end Go.Proofs.YtlgcmeachjjmgajGreatDoor
