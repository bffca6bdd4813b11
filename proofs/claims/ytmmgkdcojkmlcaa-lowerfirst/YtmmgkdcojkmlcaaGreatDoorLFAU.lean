/- The reference of programs as text: call. The reference of programs as text: part. The reference of programs as text: functions in memory. -/
import Derived.Test.YtmmgkdcojkmlcaaGreatDoorLFAT
import Derived.Test.YtmmgkdcojkmlcaaGreatDoorLFAH
namespace Go.Proofs.YtmmgkdcojkmlcaaGreatDoor
open Go.RowKit

theorem blank_idem : ∀ (n : Nat) (l : List UInt8), l.length ≤ n → blank (blank l) = blank l
  | _, [], _ => by rw [blank, blank]
  | 0, c :: r, h => by simp at h
  | n + 1, c :: r, h => by
    simp at h
    have h2 := (List.dropWhile_sublist (l := r) (· != 10)).length_le
    rw [blank]
    split
    · exact blank_idem n r h
    · split
      · exact blank_idem n _ (by omega)
      · rename_i h3 h4
        rw [blank, if_neg h3, if_neg h4]
theorem tok_again (L : List UInt8) (a : Nat) : tok L (tok L a).at' = tok L a := by
  rw [tok_pst]
  unfold tok
  rw [drop_pst, blank_idem _ _ (Nat.le_refl _)]
theorem pTake_tok {L : List UInt8} {a b : Nat} (h : tok L a = tok L b) (k : Nat) : pTake L k a = pTake L k b := by unfold pTake; rw [h]
theorem pEnter_tok {L : List UInt8} {a b : Nat} (h : tok L a = tok L b) (k l : Nat) : pEnter L k a l = pEnter L k b l := by unfold pEnter; rw [pTake_tok h]
theorem pName_tok {L : List UInt8} {a b : Nat} (h : tok L a = tok L b) : pName L a = pName L b := by unfold pName; rw [pTake_tok h]
theorem pNum_tok {L : List UInt8} {a b : Nat} (h : tok L a = tok L b) : pNum L a = pNum L b := by unfold pNum; rw [pTake_tok h]
theorem pPart_tok {L : List UInt8} {a b : Nat} (h : tok L a = tok L b) (f l : Nat) : pPart L f a l = pPart L f b l := by
  cases f with
  | zero => rw [pPart, pPart]
  | succ f => rw [pPart, pPart, h, pName_tok h, pEnter_tok h, pEnter_tok h, pNum_tok h]
theorem pProd_tok {L : List UInt8} {a b : Nat} (h : tok L a = tok L b) (f l : Nat) : pProd L f a l = pProd L f b l := by
  cases f with
  | zero => rw [pProd, pProd]
  | succ f => rw [pProd, pProd, pPart_tok h]
theorem pSum_tok {L : List UInt8} {a b : Nat} (h : tok L a = tok L b) (f l : Nat) : pSum L f a l = pSum L f b l := by
  cases f with
  | zero => rw [pSum, pSum]
  | succ f => rw [pSum, pSum, pProd_tok h]
theorem pExpr_tok {L : List UInt8} {a b : Nat} (h : tok L a = tok L b) (f l : Nat) : pExpr L f a l = pExpr L f b l := by
  cases f with
  | zero => rw [pExpr, pExpr]
  | succ f => rw [pExpr, pExpr, h, pEnter_tok h, pEnter_tok h, pEnter_tok h, pSum_tok h]
theorem pExpr_at {L : List UInt8} {f p l j : Nat} {y : Tr} (h : pExpr L f p l = .ok y j) (hp : p ≤ L.length) : (tok L p).at' + 1 ≤ j := by
  rw [pExpr_tok (tok_again L p).symm] at h
  have h1 := (p_fx L f).1 (tok L p).at' l (tok_at L p hp).2.2.1
  rw [h] at h1
  exact h1.1
theorem ownsRow_form {base : Nat} {w : World} {e : TypeId} {k n : Nat} {v : Value} {xs : List Value} (h : w.ownsRow base e k v n xs) : ∃ a c, v = .slice a n c := by
  rcases h.2 with ⟨rfl, h0⟩ | ⟨g, cap, cur, rfl, _⟩
  · exact ⟨none, 0, by rw [h0]⟩
  · exact ⟨_, _, rfl⟩

/-- what stands in a call's loop -/
structure CInv (R X f l : Nat) (T nm : ByteArray) (A : Int) (w W : World) (q2 : Res (List Tr)) (b : Bool) (a : Option Addr) (n c : Nat) (wr : World) : Prop where
  sw : W.heap.size ≤ wr.heap.size
  ex : ∃ rc : Res (List Tr), LS R T w X wr rc (l + 1) ⟨#[99, 97, 108, 108]⟩ nm A (.slice a n c) ∧
          (b = true → ∃ ts p, rc = .ok ts p ∧ RowX W.heap.size wr (.slice a n c) ts ∧ ts.length ≤ p ∧ p ≤ T.size ∧ ∃ g, g ≤ f ∧ q2 = (pExpr (by' T) g p (l + 1)).bind fun x j => pArgs (by' T) g (ts ++ [x]) j (l + 1)) ∧
          (b = false → rc = q2 ∧ ∀ ts jj, q2 = .ok ts jj → n = ts.length ∧ XTs w.heap.size wr a ts 0)

set_option maxRecDepth 100000 in
set_option maxHeartbeats 4000000 in
theorem rcall_any (R X f j l : Nat) (T op nm : ByteArray) (A : Int) (w W : World) (hE : ∀ g, g ≤ f → EXP R T g) (hL : LS R T w X W (.ok () j : Res Unit) l op nm A (.slice none 0 0)) (hg : RgG W R T j l) (hk : (tok (by' T) j).kind = 10) (q : Res (List Tr)) (hq : q = pList (by' T) (f + 1) j l) (hro : q ≠ .out) :
    Calls Tryz.prog 113 #[.pointer (some ⟨R, 0, none⟩), .pointer (some ⟨X, 0, none⟩)] W fun en w' => en = .returned (.tuple #[]) ∧ ∃ a n c, LS R T w X w' q l (bs (opS 2)) nm A (.slice a n c) ∧ ∀ ts jj, q = .ok ts jj → n = ts.length ∧ XTs w.heap.size w' a ts 0 := by
  obtain ⟨i0, hi, hz0, hz1, hz2⟩ := info_parts (show (Tryz.prog.info? 49).map (fun i => (i.zero, i.size, i.bytes)) = some (some (.pointer none), 1, 8) by kernel_rfl)
  have HI := hid (And.intro hi (And.intro hz0 (And.intro hz1 hz2)))
  obtain ⟨q1, hq1⟩ : ∃ q1, q1 = pEnter (by' T) 10 j l := ⟨_, rfl⟩
  obtain ⟨q2, hq2⟩ : ∃ q2 : Res (List Tr), q2 = q1.bind fun _ a1 => if (tok (by' T) a1).kind = 11 then .ok [] a1 else (pExpr (by' T) f a1 (l + 1)).bind fun x a2 => pArgs (by' T) f [x] a2 (l + 1) := ⟨_, rfl⟩
  have hqq : q = q2.wn (by' T) 11 := by
    rw [hq, pList, hq2, hq1]
    cases pEnter (by' T) 10 j l <;> rfl
  have n2 : q2 ≠ .out := Res.out_wn (by rw [← hqq]; exact hro)
  have hlt := hL.hR
  have hXlt := hL.lt
  have hXl := hL.hX
  have hsz := hL.fr.size
  have x0 := hL.c0
  have y0 := hL.fz 0
  obtain ⟨W1, hW1⟩ : ∃ W1, W.setCell ⟨X, 0, none⟩ (.string ⟨#[99, 97, 108, 108]⟩) = W1 := ⟨_, rfl⟩
  have HL1 : Hid (LS R T w X W1 (.ok () j : Res Unit) l ⟨#[99, 97, 108, 108]⟩ nm A (.slice none 0 0)) := by unfold Hid; rw [← hW1]; exact hL.put0 _
  have hg1 : RgG W1 R T j l := hg.keep (by rw [← hW1]; exact heap_setCell_other _ _ _ _ (by show R ≠ X; omega))
  have hs1 : W1.heap.size = W.heap.size := by rw [← hW1]; simp [World.setCell]
  have HDP := hid (rdeep_any R j l 10 T W1 hg1 hk)
  rw [← hq1] at HDP
  have HEX := hid hE
  have HTK := hid (fun (rc : Res (List Tr)) (V : World) (h : RgW V R T rc (l + 1)) => rtake_any R (l + 1) 12 T ⟨#[44]⟩ rc V h (by decide) (by decide) rfl)
  have HWN := hid (fun (V : World) (h : RgW V R T q2 l) => rwant_any R l 11 T ⟨#[41]⟩ q2 V h (by decide) (by decide) rfl)
  have HQ := hid hqq
  have HQ2 := hid hq2
  have HN2 := hid n2
  have HSM := hid hg.small
  have HS1 := hid hs1
  clear hE hL hg hk hq hro hq1 hq2 hqq n2 hg1 hi hz0 hz1 hz2 hs1
  go_enter Tryz.func113, Tryz.ntmps113
  go_wp2_with fail
  clear hW1 x0 y0
  refine HDP.out.mono ?_
  rintro e w1 ⟨b, rfl, hf1, hm1⟩
  have HL2 := hid (HL1.out.step hf1 hm1)
  have HS2 : Hid (W.heap.size ≤ w1.heap.size) := by unfold Hid; have := hf1.size; have := HS1.out; omega
  have hcs := hm1.cases
  clear hf1 hm1 HL1 HDP
  rcases hcs with ⟨u, a1, hr, hg⟩ | ⟨e, a, hfa, hr⟩
  · have c4 := hg.h.c4
    have c2 := hg.h.c2
    have hq2 := HQ2.out
    rw [hr] at hq2
    have hq2 : q2 = if (tok (by' T) a1).kind = 11 then .ok [] a1 else (pExpr (by' T) f a1 (l + 1)).bind fun x a2 => pArgs (by' T) f [x] a2 (l + 1) := hq2
    have s11 := tok_spl (by' T) a1 11 (by decide) (by decide)
    by_cases h11 : (tok (by' T) a1).kind = 11
    · have t11 : ((bs (tok (by' T) a1).text).toList == [41]) = true := by rw [bs_list, s11.1 h11]; rfl
      rw [if_pos h11] at hq2
      have HL3 : Hid (LS R T w X w1 q2 (l + 1) ⟨#[99, 97, 108, 108]⟩ nm A (.slice none 0 0)) := HL2.out.step (Fr.refl _ _) (by rw [hq2]; exact Or.inl hg)
      have HKF : Hid (∀ ts jj, q2 = .ok ts jj → 0 = ts.length ∧ XTs w.heap.size w1 none ts 0) := fun ts jj h => by
        rw [hq2] at h
        injection h with h _
        rw [← h]
        exact ⟨rfl, trivial⟩
      generalize bs (tok (by' T) a1).text = tx at *
      clear s11 h11 hq2 hr hg HL2
      obtain ⟨d, dd, r3, hdd, s3, hX9⟩ := HL3.out.back
      have HL9 := hid hX9
      have HK9 : Hid (∀ ts jj, q2 = .ok ts jj → 0 = ts.length ∧ XTs w.heap.size (w1.setCell ⟨R, 3, none⟩ (.int .i64 dd)) none ts 0) := fun ts jj h => ⟨(HKF.out ts jj h).1, XTBs.keep (fun b hb _ => ⟨hb, heap_setCell_other _ _ _ _ (by show b ≠ R; have : w.heap.size ≤ b := hb; omega)⟩) _ ts 0 (HKF.out ts jj h).2⟩
      clear hX9
      go_wp2_with fail
      generalize w1.setCell ⟨R, 3, none⟩ (.int .i64 dd) = w8 at *
      refine (HWN.out w8 HL9.out.rm).mono ?_
      rintro e w9 ⟨rfl, hf9, hm9⟩
      have HE : Hid (∃ a n c, LS R T w X w9 q l (bs (opS 2)) nm A (.slice a n c) ∧ ∀ ts jj, q = .ok ts jj → n = ts.length ∧ XTs w.heap.size w9 a ts 0) := by
        refine ⟨none, 0, 0, ?_, fun ts jj h => ?_⟩
        · rw [HQ.out]
          exact HL9.out.step hf9 hm9
        · rw [HQ.out] at h
          obtain ⟨a', h'⟩ := Res.wn_ok h
          exact ⟨(HK9.out ts a' h').1, XTBs.keep (fun b hb hl => ⟨hb, hf9.keep (by have : w.heap.size ≤ b := hb; omega) hl⟩) _ ts 0 (HK9.out ts a' h').2⟩
      clear hf9 hm9
      go_wp2_with fail
      go_end0
      exact ⟨rfl, HE.out⟩
    · have t11 : ((bs (tok (by' T) a1).text).toList == [41]) = false := by rw [bs_list]; simp; exact fun e => h11 (s11.2 e)
      rw [if_neg h11] at hq2
      have HL3 : Hid (LS R T w X w1 (.ok [] a1 : Res (List Tr)) (l + 1) ⟨#[99, 97, 108, 108]⟩ nm A (.slice none 0 0)) := HL2.out.step (Fr.refl _ _) (Or.inl hg)
      have HG3 : Hid (∃ g, g ≤ f ∧ q2 = (pExpr (by' T) g a1 (l + 1)).bind fun x j => pArgs (by' T) g ([] ++ [x]) j (l + 1)) := ⟨f, Nat.le_refl _, hq2⟩
      have HA1 := hid hg.le
      generalize bs (tok (by' T) a1).text = tx at *
      clear s11 h11 hq2 hr hg HL2
      go_wp2_with fail
      clear c4 c2 t11
      go_loopw [4] (fun bv wr => ∃ (b : Bool) (a : Option Addr) (n c : Nat), bv = .bool b ∧ Hid (CInv R X f l T nm A w W q2 b a n c wr)) (fun bv wr => match bv with | .bool true => rgm R T wr + 1 | _ => 0)
      case atStart => exact ⟨true, none, 0, 0, rfl, HS2.out, _, HL3.out, fun _ => ⟨[], a1, rfl, RowX.nil _ _, Nat.zero_le _, HA1.out, HG3.out⟩, fun h => by cases h⟩
      case round =>
        obtain ⟨b, a, n, c, rfl, hI⟩ := hrel
        clear HL3 HG3
        obtain ⟨hsW, rc, hLS, htr, hfl⟩ := hI.out
        cases b with
        | false =>
          obtain ⟨hrc, hkf⟩ := hfl rfl
          rw [hrc] at hLS
          have HL4 := hid hLS
          have HKF := hid hkf
          clear hI hLS htr hfl hkf hsW hrc
          obtain ⟨d, dd, r3, hdd, s3, hX9⟩ := HL4.out.back
          have HL9 := hid hX9
          have HK9 : Hid (∀ ts jj, q2 = .ok ts jj → n = ts.length ∧ XTs w.heap.size (wr.setCell ⟨R, 3, none⟩ (.int .i64 dd)) a ts 0) := fun ts jj h => ⟨(HKF.out ts jj h).1, XTBs.keep (fun b hb _ => ⟨hb, heap_setCell_other _ _ _ _ (by show b ≠ R; have : w.heap.size ≤ b := hb; omega)⟩) _ ts 0 (HKF.out ts jj h).2⟩
          clear hX9
          go_wp2_with fail
          generalize wr.setCell ⟨R, 3, none⟩ (.int .i64 dd) = w8 at *
          refine (HWN.out w8 HL9.out.rm).mono ?_
          rintro e w9 ⟨rfl, hf9, hm9⟩
          have HE : Hid (∃ a n c, LS R T w X w9 q l (bs (opS 2)) nm A (.slice a n c) ∧ ∀ ts jj, q = .ok ts jj → n = ts.length ∧ XTs w.heap.size w9 a ts 0) := by
            refine ⟨a, n, c, ?_, fun ts jj h => ?_⟩
            · rw [HQ.out]
              exact HL9.out.step hf9 hm9
            · rw [HQ.out] at h
              obtain ⟨a', h'⟩ := Res.wn_ok h
              exact ⟨(HK9.out ts a' h').1, XTBs.keep (fun b hb hl => ⟨hb, hf9.keep (by have : w.heap.size ≤ b := hb; omega) hl⟩) _ ts 0 (HK9.out ts a' h').2⟩
          clear hf9 hm9
          go_wp2_with fail
          go_end0
          exact ⟨rfl, HE.out⟩
        | true =>
          obtain ⟨ts, p, rfl, hRow, hlen, hp, g, hgf, hq2⟩ := htr rfl
          clear htr hfl hI
          rcases hLS.rm.cases with ⟨ts', p', he, hg⟩ | ⟨e, a', hfa, hr⟩
          · injection he with he1 he2
            subst he1 he2
            have c4 := hg.h.c4
            have hne : pExpr (by' T) g p (l + 1) ≠ .out := Res.out_bind (by rw [← hq2]; exact HN2.out)
            have HC := hid (HEX.out g hgf _ (.ok ts p) (l + 1) wr hLS.rm hne)
            have HFX := hid ((p_fx (by' T) g).1 p (l + 1) (by rw [by_len]; exact hp))
            have HL4 := hid hLS
            have HRow := hid hRow
            have HP := hid (And.intro hlen hp)
            have HQ3 := hid hq2
            have HGF := hid hgf
            have HSW := hid hsW
            have HGM := hid hg.rgm
            have HAT := hid (tok_at (by' T) p (by rw [by_len]; exact hp))
            have HPX := hid (fun (y : Tr) (jy : Nat) (h : pExpr (by' T) g p (l + 1) = .ok y jy) => pExpr_at h (by rw [by_len]; exact hp))
            clear hLS hRow hlen hp hq2 hgf hsW hg hne
            go_wp2_with fail
            refine HC.out.mono ?_
            rintro e w4 ⟨py, rfl, hf4, hm4, ht4⟩
            have hm4 : RgW w4 R T (pExpr (by' T) g p (l + 1)) (l + 1) := hm4
            have ht4 : ∀ t j, pExpr (by' T) g p (l + 1) = .ok t j → XT wr.heap.size w4 t (.pointer py) := ht4
            obtain ⟨rc4, hrc4⟩ : ∃ rc4 : Res (List Tr), rc4 = (pExpr (by' T) g p (l + 1)).bind fun y j => .ok (ts ++ [y]) j := ⟨_, rfl⟩
            have HL5 : Hid (LS R T w X w4 rc4 (l + 1) ⟨#[99, 97, 108, 108]⟩ nm A (.slice a n c)) := HL4.out.step hf4 (by rw [hrc4]; exact hm4.map _)
            have hbR : R < W.heap.size := by omega
            have hRow4 := HRow.out.fr hf4 hbR
            have hsW4 : W.heap.size ≤ w4.heap.size := Nat.le_trans HSW.out hf4.size
            obtain ⟨vals, hown4, hel4⟩ := hRow4
            have hgl : ∀ k, (Value.slice a n c).ownBlock = some k → W.heap.size ≤ k ∧ k < wr.heap.size := fun k e => by
              obtain ⟨vals3, h7, _⟩ := HRow.out
              exact h7.lt k e
            have hln : ts.length = n := by
              obtain ⟨a', c', e⟩ := HRow.out.form
              injection e with _ e _
              exact e.symm
            rw [hln] at hown4
            obtain ⟨WA, hWA⟩ : ∃ WA, WA = w4.alloc (.cells #[.pointer py] 49) := ⟨_, rfl⟩
            have hbA : Below w4.heap.size w4 WA := by rw [hWA]; exact (Below.refl _ _).alloc (Nat.le_refl _) _
            have hownA : WA.ownsRow W.heap.size 49 1 (.slice a n c) n vals := by rw [hWA]; exact hown4.alloc _
            have HLA : Hid (LS R T w X WA rc4 (l + 1) ⟨#[99, 97, 108, 108]⟩ nm A (.slice a n c)) := by unfold Hid; rw [hWA]; exact HL5.out.alloc _
            have hn4 : n ≤ 4000 := by
              have h7 := HP.out
              have h8 := HSM.out
              omega
            have HTR : Hid (∀ t j, pExpr (by' T) g p (l + 1) = .ok t j → XTB (fun b => W.heap.size ≤ b ∧ some b ≠ (Value.slice a n c).ownBlock) WA t (.pointer py)) := fun t j h => XTB.keep (fun b hb hl => by
              have hb' : wr.heap.size ≤ b := hb
              have := HSW.out
              exact ⟨⟨by omega, fun e => by have := hgl b e.symm; omega⟩, hbA.block b hl⟩) _ _ (ht4 t j h)
            have HEL : Hid (∀ (i : Nat) t, ts[i]? = some t → ∃ u, vals[i]? = some u ∧ XTB (fun b => W.heap.size ≤ b ∧ some b ≠ (Value.slice a n c).ownBlock) WA t u) := fun i t ht => by
              obtain ⟨u, k1, k2⟩ := hel4 i t ht
              exact ⟨u, k1, XTB.keep (fun b hB2 hl2 => ⟨hB2, hbA.block b hl2⟩) _ _ k2⟩
            have HGA : Hid (∀ w5, WA.grownBy w5 (Value.slice a n c).ownBlock → LS R T w X w5 rc4 (l + 1) ⟨#[99, 97, 108, 108]⟩ nm A (.slice a n c)) := fun w5 hgr => by
              have hX' : some X ≠ (Value.slice a n c).ownBlock := fun e => by have := (hgl X e.symm).1; omega
              have hR' : some R ≠ (Value.slice a n c).ownBlock := fun e => by have := (hgl R e.symm).1; omega
              exact ⟨HLA.out.fr.grown hgr (fun k e => by have := (hgl k e).1; omega) hlt, HLA.out.rm.keep (hgr.block R HLA.out.rm.lt hR'), (hgr.block X HLA.out.lt hX').trans HLA.out.xb, HLA.out.hX, HLA.out.hR⟩
            have HOWN := hid hownA
            have HN4 := hid hn4
            have HS4 : Hid (W.heap.size ≤ w4.heap.size) := hsW4
            have HLN := hid hln
            have HRC := hid hrc4
            have HSA : Hid (w4.heap.size ≤ WA.heap.size) := hbA.size
            have x4 := HL5.out.c4
            have HWA := hid hWA
            clear hf4 hm4 ht4 hown4 hel4 hgl hln hbA hownA hn4 hsW4 hrc4 HC hWA
            go_wp2_with (at_builtin; refine wpList_append_own_at _ rfl _ _ 124 rfl W.heap.size 49 i0 (.pointer none) 1 8 Tryz.underlying124 HI.out.1 HI.out.2.1 HI.out.2.2.1 HI.out.2.2.2 rfl (by decide) (.slice a n c) n vals rfl (by rw [← HWA.out]; exact HOWN.out) ⟨w4.heap.size, 0, none⟩ 1 1 [.pointer py] rfl rfl (cell_one_new _ _ _) (by simp [Value.oneCell']) (by have := HN4.out; unfold maxLen; omega) (by have := HN4.out; omega) (by have := HS4.out; simp; omega) ?_; intro v' w5 hown2 hgrow _ hwhere; rw [← HWA.out] at hgrow hwhere; obtain ⟨a2, c2, hv'⟩ := ownsRow_form hown2; subst hv'; have hL6 := HGA.out w5 hgrow; have x5 := hL6.c4; have y5 := hL6.fz 4)
            have HL6 := hid (hL6.put4 (.slice a2 (n + 1) c2))
            have hln := HLN.out
            have hown2' : w5.ownsRow W.heap.size 49 1 (.slice a2 (n + 1) c2) (ts.length + 1) (vals ++ [.pointer py]) := by rw [hln]; exact hown2
            have HRow5 : Hid (∀ t j, pExpr (by' T) g p (l + 1) = .ok t j → RowX W.heap.size (w5.setCell ⟨X, 4, none⟩ (.slice a2 (n + 1) c2)) (.slice a2 (n + 1) c2) (ts ++ [t])) := fun t j h => by
              have h1 : RowX W.heap.size w5 (.slice a2 (n + 1) c2) (ts ++ [t]) := RowX.push (by rw [hln]; exact HOWN.out) HEL.out (HTR.out t j h) hown2' hgrow hwhere
              obtain ⟨vals2, k1, k2⟩ := h1
              have hfx : Fr X w5 (w5.setCell ⟨X, 4, none⟩ (.slice a2 (n + 1) c2)) := (Fr.refl X w5).set 4 _
              exact ⟨vals2, ownsRow_fr k1 hfx hXlt, fun i t ht => by
                obtain ⟨u, k3, k4⟩ := k2 i t ht
                exact ⟨u, k3, XTB.keep (fun b hb hl => ⟨hb, hfx.2 b hl (by have := hb.1; omega)⟩) _ _ k4⟩⟩
            have HSW5 : Hid (W.heap.size ≤ (w5.setCell ⟨X, 4, none⟩ (.slice a2 (n + 1) c2)).heap.size) := by
              unfold Hid
              have k1 := hgrow.size
              have k2 := HSA.out
              have k3 := HS4.out
              have k4 := ((Fr.refl X w5).set 4 (.slice a2 (n + 1) c2)).size
              omega
            generalize w5.setCell ⟨X, 4, none⟩ (.slice a2 (n + 1) c2) = w6 at *
            clear hown2 hgrow hwhere hL6 x5 y5 hown2' hln x4
            refine (HTK.out rc4 w6 HL6.out.rm).mono ?_
            rintro e w7 ⟨hf7, ⟨rfl, ts', j', hr, hk12, hm7⟩ | ⟨rfl, hm7, hk12⟩⟩
            · have hLS7 := HL6.out.step hf7 hm7
              have hbR : R < W.heap.size := by omega
              have hr0 := HRC.out
              rw [hr] at hr0
              obtain ⟨y, jy, hy, hy2⟩ := Res.bind_ok hr0.symm
              injection hy2 with hy2 hy3
              subst hy2 hy3
              have hRow7 := (HRow5.out y jy hy).fr hf7 hbR
              have hq3 := HQ3.out
              rw [hy] at hq3
              have hq3 : q2 = pArgs (by' T) g (ts ++ [y]) jy (l + 1) := hq3
              have hfx := HFX.out
              rw [hy] at hfx
              have hfx1 := hfx.1
              have hfx2 := hfx.2
              rw [by_len] at hfx2
              have hta := tok_at (by' T) jy (by rw [by_len]; exact hfx2)
              rw [by_len] at hta
              have hnx := hta.2.2.2.1 (by omega)
              have hg7 : ∃ g', g' ≤ f ∧ q2 = (pExpr (by' T) g' (tok (by' T) jy).nx (l + 1)).bind fun x j => pArgs (by' T) g' (ts ++ [y] ++ [x]) j (l + 1) := by
                cases g with
                | zero => rw [pArgs] at hq3; exact absurd hq3 HN2.out
                | succ g' => exact ⟨g', by have := HGF.out; omega, by rw [pArgs, if_pos hk12] at hq3; exact hq3⟩
              have HI7 : Hid (CInv R X f l T nm A w W q2 true a2 (n + 1) c2 w7) := ⟨Nat.le_trans HSW5.out hf7.size, _, hLS7, fun _ => ⟨_, _, rfl, hRow7, by have := HP.out.1; rw [List.length_append]; show ts.length + 1 ≤ _; omega, hta.2.1, hg7⟩, fun h => by cases h⟩
              have HM7 : Hid (rgm R T w7 < T.size + 1 - (tok (by' T) p).at') := rgm_lt hm7 (fun _ j h => by
                injection h with _ h
                have h1 := hta.1
                have h2 := hta.2.1
                have h3 : jy ≤ (tok (by' T) jy).at' := hta.1
                have h4 := hfx1
                have h5 := HAT.out.2.1
                have h6 := HPX.out _ _ hy
                subst h
                omega) (by have h1 := HAT.out.2.2.1; rw [by_len] at h1; exact h1)
              clear hf7 hr hk12 hm7 hLS7 hRow7 hq3 hfx hfx1 hfx2 hta hnx hg7 hr0 hy
              go_wp2_with fail
              go_roundw
              case rel => exact ⟨true, _, _, _, rfl, HI7⟩
              case measure =>
                have h1 := HM7.out
                have h2 := HGM.out
                simp only
                omega
            · have hqe : q2 = rc4 := by
                rw [HQ3.out, HRC.out]
                cases hc : pExpr (by' T) g p (l + 1) with
                | out => rfl
                | bad e a => rfl
                | ok y jy =>
                  show pArgs (by' T) g (ts ++ [y]) jy (l + 1) = .ok (ts ++ [y]) jy
                  have hq3 := HQ3.out
                  rw [hc] at hq3
                  have hq3 : q2 = pArgs (by' T) g (ts ++ [y]) jy (l + 1) := hq3
                  cases g with
                  | zero => rw [pArgs] at hq3; exact absurd hq3 HN2.out
                  | succ g' =>
                    rw [pArgs, if_neg]
                    exact hk12 (ts ++ [y]) jy (by rw [HRC.out, hc]; rfl)
              have hbR : R < W.heap.size := by omega
              have HI7 : Hid (CInv R X f l T nm A w W q2 false a2 (n + 1) c2 w7) := ⟨Nat.le_trans HSW5.out hf7.size, q2, HL6.out.step hf7 (by rw [hqe]; exact hm7), fun h => (nomatch h), fun _ => ⟨rfl, fun ts2 jj h => by
                    rw [hqe, HRC.out] at h
                    obtain ⟨y, jy, hy, hy2⟩ := Res.bind_ok h
                    injection hy2 with hy2 _
                    subst hy2
                    have hR7 := (HRow5.out y jy hy).fr hf7 hbR
                    obtain ⟨a', c', e1, e2⟩ := hR7.vl
                    injection e1 with e3 e4 _
                    subst e3
                    exact ⟨e4, XTBs.keep (fun b hb _ => ⟨Nat.le_trans hsz hb, rfl⟩) _ _ 0 e2⟩⟩⟩
              clear hf7 hm7 hk12 hqe
              go_wp2_with fail
              go_roundw
              case rel => exact ⟨false, _, _, _, rfl, HI7⟩
              case measure => simp only; omega
          · have hq5 : q2 = .bad e a' := by
              rcases hr with h | ⟨x', j', h, h0, rfl, rfl⟩
              · cases h
              · injection h with _ h
                subst h
                rw [hq2]
                rcases pExpr_zero (f := g) (l := l + 1) h0 with h1 | h1
                · exact absurd (by rw [hq2, h1]; rfl) HN2.out
                · rw [h1]; rfl
            obtain ⟨he, at', tk, dp, hR⟩ := hfa
            have c4 := hR.c4
            have q4 : ((e : Int) == 0) = false := by simp; omega
            have HL4 : Hid (LS R T w X wr q2 (l + 1) ⟨#[99, 97, 108, 108]⟩ nm A (.slice a n c)) := hLS.step (Fr.refl _ _) (by rw [hq5]; exact ⟨he, at', tk, dp, hR⟩)
            have HKF : Hid (∀ ts jj, q2 = .ok ts jj → n = ts.length ∧ XTs w.heap.size wr a ts 0) := fun ts jj h => by rw [hq5] at h; cases h
            clear hLS hRow hlen hp hq2 hgf hsW hR he hr hq5
            obtain ⟨d, dd, r3, hdd, s3, hX9⟩ := HL4.out.back
            have HL9 := hid hX9
            have HK9 : Hid (∀ ts jj, q2 = .ok ts jj → n = ts.length ∧ XTs w.heap.size (wr.setCell ⟨R, 3, none⟩ (.int .i64 dd)) a ts 0) := fun ts jj h => ⟨(HKF.out ts jj h).1, XTBs.keep (fun b hb _ => ⟨hb, heap_setCell_other _ _ _ _ (by show b ≠ R; have : w.heap.size ≤ b := hb; omega)⟩) _ ts 0 (HKF.out ts jj h).2⟩
            clear hX9
            go_wp2_with fail
            generalize wr.setCell ⟨R, 3, none⟩ (.int .i64 dd) = w8 at *
            refine (HWN.out w8 HL9.out.rm).mono ?_
            rintro e w9 ⟨rfl, hf9, hm9⟩
            have HE : Hid (∃ a n c, LS R T w X w9 q l (bs (opS 2)) nm A (.slice a n c) ∧ ∀ ts jj, q = .ok ts jj → n = ts.length ∧ XTs w.heap.size w9 a ts 0) := by
              refine ⟨a, n, c, ?_, fun ts jj h => ?_⟩
              · rw [HQ.out]
                exact HL9.out.step hf9 hm9
              · rw [HQ.out] at h
                obtain ⟨a', h'⟩ := Res.wn_ok h
                exact ⟨(HK9.out ts a' h').1, XTBs.keep (fun b hb hl => ⟨hb, hf9.keep (by have : w.heap.size ≤ b := hb; omega) hl⟩) _ ts 0 (HK9.out ts a' h').2⟩
            clear hf9 hm9
            go_wp2_with fail
            go_end0
            exact ⟨rfl, HE.out⟩
  · have hq5 : q2 = .bad e a := by
      rw [HQ2.out]
      rcases hr with h | ⟨x', j', h, h0, rfl, rfl⟩
      · rw [h]; rfl
      · have hq2 := HQ2.out
        rw [h] at hq2 ⊢
        have hq2 : q2 = if (tok (by' T) j').kind = 11 then .ok [] j' else (pExpr (by' T) f j' (l + 1)).bind fun x a2 => pArgs (by' T) f [x] a2 (l + 1) := hq2
        show (if (tok (by' T) j').kind = 11 then _ else _) = _
        rw [if_neg (by omega)] at hq2 ⊢
        rcases pExpr_zero (f := f) (l := l + 1) h0 with h1 | h1
        · exact absurd (by rw [hq2, h1]; rfl) HN2.out
        · rw [h1]; rfl
    obtain ⟨he, at', tk, dp, hR⟩ := hfa
    have c4 := hR.c4
    have q4 : ((e : Int) == 0) = false := by simp; omega
    have HL3 : Hid (LS R T w X w1 q2 (l + 1) ⟨#[99, 97, 108, 108]⟩ nm A (.slice none 0 0)) := HL2.out.step (Fr.refl _ _) (by rw [hq5]; exact ⟨he, at', tk, dp, hR⟩)
    have HKF : Hid (∀ ts jj, q2 = .ok ts jj → 0 = ts.length ∧ XTs w.heap.size w1 none ts 0) := fun ts jj h => by rw [hq5] at h; cases h
    clear hR he hr hq5 HL2
    obtain ⟨d, dd, r3, hdd, s3, hX9⟩ := HL3.out.back
    have HL9 := hid hX9
    have HK9 : Hid (∀ ts jj, q2 = .ok ts jj → 0 = ts.length ∧ XTs w.heap.size (w1.setCell ⟨R, 3, none⟩ (.int .i64 dd)) none ts 0) := fun ts jj h => ⟨(HKF.out ts jj h).1, XTBs.keep (fun b hb _ => ⟨hb, heap_setCell_other _ _ _ _ (by show b ≠ R; have : w.heap.size ≤ b := hb; omega)⟩) _ ts 0 (HKF.out ts jj h).2⟩
    clear hX9
    go_wp2_with fail
    generalize w1.setCell ⟨R, 3, none⟩ (.int .i64 dd) = w8 at *
    refine (HWN.out w8 HL9.out.rm).mono ?_
    rintro e w9 ⟨rfl, hf9, hm9⟩
    have HE : Hid (∃ a n c, LS R T w X w9 q l (bs (opS 2)) nm A (.slice a n c) ∧ ∀ ts jj, q = .ok ts jj → n = ts.length ∧ XTs w.heap.size w9 a ts 0) := by
      refine ⟨none, 0, 0, ?_, fun ts jj h => ?_⟩
      · rw [HQ.out]
        exact HL9.out.step hf9 hm9
      · rw [HQ.out] at h
        obtain ⟨a', h'⟩ := Res.wn_ok h
        exact ⟨(HK9.out ts a' h').1, XTBs.keep (fun b hb hl => ⟨hb, hf9.keep (by have : w.heap.size ≤ b := hb; omega) hl⟩) _ ts 0 (HK9.out ts a' h').2⟩
    clear hf9 hm9
    go_wp2_with fail
    go_end0
    exact ⟨rfl, HE.out⟩

end Go.Proofs.YtmmgkdcojkmlcaaGreatDoor

namespace Go.Proofs.YtmmgkdcojkmlcaaGreatDoor
open Go.RowKit

set_option maxRecDepth 100000 in
set_option maxHeartbeats 2000000 in
theorem rpart_bad (R : Nat) (T : ByteArray) (l e a : Nat) (w : World) (hf : RgF w R T e a) (q : Res Tr) (hq : q = .bad e a) :
    Calls Tryz.prog 107 #[.pointer (some ⟨R, 0, none⟩)] w (XR R T q l w) := by
  have HF := hid hf
  obtain ⟨he, at', tk, dp, hR⟩ := hf
  have hlt := hR.lt
  have c4 := hR.c4
  have q4 : ((e : Int) != 0) = true := by simp; omega
  obtain ⟨W0, hW0⟩ : ∃ W0, w.alloc (.cells #[.string ⟨#[]⟩, .string ⟨#[]⟩, .int .i64 0, .int .i64 0, .slice none 0 0] 126) = W0 := ⟨_, rfl⟩
  have hb0 : Below w.heap.size w W0 := by rw [← hW0]; exact (Below.refl w.heap.size w).alloc (Nat.le_refl _) _
  have HE : Hid (XR R T q l w (.returned (.pointer (some ⟨w.heap.size, 0, none⟩))) W0) := ⟨_, rfl, Fr.below hb0 (Nat.le_of_lt hlt), by rw [hq]; exact HF.out.keep (hb0.block _ hlt), fun t jj h => by rw [hq] at h; cases h⟩
  clear hq hR hb0 he
  go_enter Tryz.func107, Tryz.ntmps107
  go_wp2_with fail
  go_ret
  exact HE.out

set_option maxRecDepth 100000 in
set_option maxHeartbeats 2000000 in
theorem rpart_brack (R : Nat) (T : ByteArray) (f j l : Nat) (w : World) (hE : EXP R T f) (hg : RgG w R T j l) (hk : (tok (by' T) j).kind = 10) (q : Res Tr) (hq : q = pPart (by' T) (f + 1) j l) (hro : q ≠ .out) :
    Calls Tryz.prog 107 #[.pointer (some ⟨R, 0, none⟩)] w (XR R T q l w) := by
  have htx := (tok_spl (by' T) j 10 (by decide) (by decide)).1 hk
  have hlt := hg.h.lt
  have c2 := hg.h.c2
  have c4 := hg.h.c4
  have t1 : ((bs (tok (by' T) j).text).toList == [40]) = true := by rw [bs_list, htx]; rfl
  obtain ⟨q1, hq1⟩ : ∃ q1, q1 = pEnter (by' T) 10 j l := ⟨_, rfl⟩
  obtain ⟨q2, hq2⟩ : ∃ q2 : Res Tr, q2 = q1.bind fun _ a => pExpr (by' T) f a (l + 1) := ⟨_, rfl⟩
  have hqq : q = q2.wn (by' T) 11 := by
    rw [hq, pPart, if_neg (by omega), if_pos hk, hq2, hq1]
    cases pEnter (by' T) 10 j l with
    | out => rfl
    | bad e a => rfl
    | ok _ a1 =>
      simp only [Res.wn, Res.bind]
  have n2 : q2 ≠ .out := Res.out_wn (by rw [← hqq]; exact hro)
  have HDP := hid (rdeep_any R j l 10 T w hg hk)
  rw [← hq1] at HDP
  have HEX := hid (fun (W : World) (h : RgW W R T q1 (l + 1)) => hE _ q1 (l + 1) W h (by rw [← hq2]; exact n2))
  rw [← hq2] at HEX
  have HWN := hid (fun (W : World) (h : RgW W R T q2 l) => rwant_any R l 11 T ⟨#[41]⟩ q2 W h (by decide) (by decide) rfl)
  have HQQ := hid hqq
  generalize bs (tok (by' T) j).text = tx at *
  clear hE hg hk hq hro htx hq1 hq2 hqq n2
  go_enter Tryz.func107, Tryz.ntmps107
  go_wp2_with fail
  refine HDP.out.mono ?_
  rintro e w1 ⟨b, rfl, hf1, hm1⟩
  have HF1 := hid hf1
  have HM1 := hid hm1
  clear hf1 hm1 c2 c4
  go_wp2_with fail
  refine (HEX.out w1 HM1.out).mono ?_
  rintro e w2 ⟨p2, rfl, hf2, hm2, ht2⟩
  obtain ⟨d, r3, s3, hm3⟩ := hm2.back
  obtain ⟨dd, hdd⟩ : ∃ dd, IntKind.i64.wrap (d - 1) = dd := ⟨_, rfl⟩
  rw [hdd] at hm3
  have HF3 : Hid (Fr R w (w2.setCell ⟨R, 3, none⟩ (.int .i64 dd))) := (HF1.out.trans hf2).set 3 _
  have HM3 := hid hm3
  have hs1 := HF1.out.size
  have HT3 : Hid (∀ t j, q2 = .ok t j → XT w1.heap.size (w2.setCell ⟨R, 3, none⟩ (.int .i64 dd)) t (.pointer p2)) := fun t j h => (ht2 t j h).put (by omega) 3 _
  clear hf2 hm2 ht2 hm3
  go_wp2_with fail
  generalize w2.setCell ⟨R, 3, none⟩ (.int .i64 dd) = w3 at *
  refine (HWN.out w3 HM3.out).mono ?_
  rintro e w4 ⟨rfl, hf4, hm4⟩
  have HE : Hid (XR R T q l w (.returned (.pointer p2)) w4) := ⟨_, rfl, HF3.out.trans hf4, by rw [HQQ.out]; exact hm4, fun t jj h => by
    rw [HQQ.out] at h
    obtain ⟨a, h⟩ := Res.wn_ok h
    exact ((HT3.out t a h).fr hf4 (by omega)).mono hs1⟩
  clear hf4 hm4
  go_wp2_with fail
  go_ret
  exact HE.out

set_option maxRecDepth 100000 in
set_option maxHeartbeats 2000000 in
theorem rpart_minus (R : Nat) (T : ByteArray) (f j l : Nat) (w : World) (hP : PRT R T f) (hg : RgG w R T j l) (hk : (tok (by' T) j).kind = 17) (q : Res Tr) (hq : q = pPart (by' T) (f + 1) j l) (hro : q ≠ .out) :
    Calls Tryz.prog 107 #[.pointer (some ⟨R, 0, none⟩)] w (XR R T q l w) := by
  have htx := (tok_spl (by' T) j 17 (by decide) (by decide)).1 hk
  have hlt := hg.h.lt
  have c2 := hg.h.c2
  have c4 := hg.h.c4
  have t1 : ((bs (tok (by' T) j).text).toList == [40]) = false := by rw [bs_list, htx]; rfl
  have t2 : ((bs (tok (by' T) j).text).toList == [45]) = true := by rw [bs_list, htx]; rfl
  obtain ⟨q1, hq1⟩ : ∃ q1, q1 = pEnter (by' T) 17 j l := ⟨_, rfl⟩
  obtain ⟨q2, hq2⟩ : ∃ q2 : Res Tr, q2 = q1.bind fun _ a => pPart (by' T) f a (l + 1) := ⟨_, rfl⟩
  have hqq : q = q2.bind fun x a => .ok (.node 3 [] 0 0 [x]) a := by
    rw [hq, pPart, if_neg (by omega), if_neg (by omega), if_pos hk, hq2, hq1]
    cases pEnter (by' T) 17 j l <;> rfl
  have n2 : q2 ≠ .out := Res.out_bind (by rw [← hqq]; exact hro)
  have HDP := hid (rdeep_any R j l 17 T w hg hk)
  rw [← hq1] at HDP
  have HEX := hid (fun (W : World) (h : RgW W R T q1 (l + 1)) => hP _ q1 (l + 1) W h (by rw [← hq2]; exact n2))
  rw [← hq2] at HEX
  have HQQ := hid hqq
  generalize bs (tok (by' T) j).text = tx at *
  clear hP hg hk hq hro htx hq1 hq2 hqq n2
  go_enter Tryz.func107, Tryz.ntmps107
  go_wp2_with fail
  refine HDP.out.mono ?_
  rintro e w1 ⟨b, rfl, hf1, hm1⟩
  have HF1 := hid hf1
  have HM1 := hid hm1
  clear hf1 hm1 c2 c4
  go_wp2_with fail
  refine (HEX.out w1 HM1.out).mono ?_
  rintro e w2 ⟨p2, rfl, hf2, hm2, ht2⟩
  obtain ⟨d, r3, s3, hm3⟩ := hm2.back
  obtain ⟨dd, hdd⟩ : ∃ dd, IntKind.i64.wrap (d - 1) = dd := ⟨_, rfl⟩
  rw [hdd] at hm3
  obtain ⟨w3, hw3⟩ : ∃ w3, w2.setCell ⟨R, 3, none⟩ (.int .i64 dd) = w3 := ⟨_, rfl⟩
  have HF3 : Hid (Fr R w w3) := by unfold Hid; rw [← hw3]; exact (HF1.out.trans hf2).set 3 _
  rw [hw3] at hm3
  have HM3 := hid hm3
  have hs1 := HF1.out.size
  have HT3 : Hid (∀ t j, q2 = .ok t j → XT w1.heap.size w3 t (.pointer p2)) := fun t j h => by rw [← hw3]; exact (ht2 t j h).put (by omega) 3 _
  obtain ⟨V1, hV1⟩ : ∃ V1, w3.alloc (.cells #[.pointer p2] 49) = V1 := ⟨_, rfl⟩
  have hs2 : V1.heap.size = w3.heap.size + 1 := by rw [← hV1]; simp
  have b1 : Below w3.heap.size w3 V1 := by rw [← hV1]; exact (Below.refl _ _).alloc (Nat.le_refl _) _
  have n1 : V1.heap[w3.heap.size]? = some (.cells #[.pointer p2] 49 (0, 0)) := by rw [← hV1]; exact heap_alloc_new w3 _
  obtain ⟨V2, hV2⟩ : ∃ V2, V1.alloc (.cells #[.string ⟨#[110, 101, 103]⟩, .string ⟨#[]⟩, .int .i64 0, .int .i64 0, .slice (some ⟨w3.heap.size, 0, none⟩) 1 1] 126) = V2 := ⟨_, rfl⟩
  have b2 : Below V1.heap.size V1 V2 := by rw [← hV2]; exact (Below.refl _ _).alloc (Nat.le_refl _) _
  have m2 : V2.heap[V1.heap.size]? = some (.cells #[.string ⟨#[110, 101, 103]⟩, .string ⟨#[]⟩, .int .i64 0, .int .i64 0, .slice (some ⟨w3.heap.size, 0, none⟩) 1 1] 126 (0, 0)) := by rw [← hV2]; exact heap_alloc_new V1 _
  have b3 : Below w3.heap.size w3 V2 := b1.trans (b2.mono (by omega))
  have hs := HF3.out.size
  have HE : Hid (XR R T q l w (.returned (.pointer (some ⟨V1.heap.size, 0, none⟩))) V2) := ⟨_, rfl, HF3.out.more b3 hlt, by rw [HQQ.out]; exact (HM3.out.keep (b3.block _ HM3.out.lt)).map _, fun t jj h => by
    rw [HQQ.out] at h
    obtain ⟨x, a, h1, h⟩ := Res.bind_ok h
    injection h with h _
    subst h
    refine ⟨V1.heap.size, some ⟨w3.heap.size, 0, none⟩, 1, 0, rfl, (by show w.heap.size ≤ V1.heap.size; omega), m2, fun h => by omega, ⟨⟨_, _, rfl, hs, ?_, ((HT3.out _ _ h1).below b3).mono hs1⟩, trivial⟩⟩
    have := (b2.block w3.heap.size (by omega)).trans n1
    simp [World.cell?, this]⟩
  have HV1 := hid hV1
  clear hf2 hm2 ht2 hm3 b1 b2 b3 m2 n1 hs2 hs HT3 HM3 HF3
  go_wp2_with fail
  go_ret
  exact HE.out

set_option maxRecDepth 100000 in
set_option maxHeartbeats 2000000 in
theorem rpart_num (R : Nat) (T : ByteArray) (f j l : Nat) (w : World) (hg : RgG w R T j l) (c : UInt8) (t : List UInt8) (ht : (tok (by' T) j).text = c :: t) (hc : isDg c = true) (q : Res Tr) (hq : q = pPart (by' T) (f + 1) j l) :
    Calls Tryz.prog 107 #[.pointer (some ⟨R, 0, none⟩)] w (XR R T q l w) := by
  have hnl : isLt c = false := by
    unfold isDg at hc
    unfold isLt
    simp [UInt8.le_iff_toNat_le] at hc ⊢
    omega
  have hk2 : ¬ (tok (by' T) j).kind = 2 := fun h => by have := ((tok_name hg.ok ht).1 h).1; rw [hnl] at this; cases this
  have hk10 : ¬ (tok (by' T) j).kind = 10 := fun h => by
    have h1 := (tok_spl (by' T) j 10 (by decide) (by decide)).1 h
    rw [ht] at h1
    injection h1 with h1 _
    rw [h1] at hc
    exact absurd hc (by decide)
  have hk17 : ¬ (tok (by' T) j).kind = 17 := fun h => by
    have h1 := (tok_spl (by' T) j 17 (by decide) (by decide)).1 h
    rw [ht] at h1
    injection h1 with h1 _
    rw [h1] at hc
    exact absurd hc (by decide)
  rw [pPart, if_neg hk2, if_neg hk10, if_neg hk17] at hq
  have hlt := hg.h.lt
  have c2 := hg.h.c2
  have c4 := hg.h.c4
  have t1 : ((bs (tok (by' T) j).text).toList == [40]) = false := by rw [bs_list]; simp; exact fun e => hk10 ((tok_spl (by' T) j 10 (by decide) (by decide)).2 e)
  have t2 : ((bs (tok (by' T) j).text).toList == [45]) = false := by rw [bs_list]; simp; exact fun e => hk17 ((tok_spl (by' T) j 17 (by decide) (by decide)).2 e)
  have t3 : ((bs (tok (by' T) j).text).toList == []) = false := by rw [bs_list, ht]; rfl
  have h0 : 0 < (bs (tok (by' T) j).text).size := by rw [bs_size, ht]; simp
  have h00 : (0 : Int) < ((bs (tok (by' T) j).text).size : Int) := by omega
  have hc0 : (bs (tok (by' T) j).text)[0] = c := by rw [bs_get]; simp [ht]
  have HDG := hid (rdig_any c w)
  rw [hc] at HDG
  have HNU := hid (rnum_any R j l T w hg c t ht hc)
  have HON := hid (fun (W : World) (h : RgG W R T j l) => ron_any R j l T W h)
  have HQ := hid hq
  generalize bs (tok (by' T) j).text = tx at *
  clear hg ht hc hnl hk2 hk10 hk17 hq
  go_enter Tryz.func107, Tryz.ntmps107
  go_wp2_with fail
  refine HDG.out.mono ?_
  rintro e w1 ⟨rfl, rfl⟩
  go_wp2_with fail
  refine HNU.out.mono ?_
  rintro e w2 ⟨hf2, ⟨rfl, hg2, hn⟩ | ⟨rfl, e2, hfa, hn⟩⟩
  · have HF2 := hid hf2
    have HG2 := hid hg2
    have HQ2 := hid (HQ.out.trans hn)
    have e4 := hg2.h.c4
    clear hf2 hg2 hn c2 c4 HNU
    generalize numV (tok (by' T) j).text = N at *
    go_wp2_with fail
    refine (HON.out w2 HG2.out).mono ?_
    rintro e w3 ⟨rfl, hf3, hm3⟩
    obtain ⟨V, hV⟩ : ∃ V, w3.alloc (.cells #[.string ⟨#[110, 117, 109, 98, 101, 114]⟩, .string ⟨#[]⟩, .int .i64 (N : Int), .int .i64 0, .slice none 0 0] 126) = V := ⟨_, rfl⟩
    have b1 : Below w3.heap.size w3 V := by rw [← hV]; exact (Below.refl _ _).alloc (Nat.le_refl _) _
    have n1 : V.heap[w3.heap.size]? = some (.cells #[.string ⟨#[110, 117, 109, 98, 101, 114]⟩, .string ⟨#[]⟩, .int .i64 (N : Int), .int .i64 0, .slice none 0 0] 126 (0, 0)) := by rw [← hV]; exact heap_alloc_new w3 _
    have hF3 := HF2.out.trans hf3
    have HE : Hid (XR R T q l w1 (.returned (.pointer (some ⟨w3.heap.size, 0, none⟩))) V) := ⟨_, rfl, hF3.more b1 hlt, by rw [HQ2.out]; exact (hm3.keep (b1.block _ hm3.lt)).of rfl, fun t jj h => by
      rw [HQ2.out] at h
      injection h with h _
      subst h
      exact ⟨w3.heap.size, none, 0, 0, rfl, hF3.size, n1, fun h => by omega, trivial⟩⟩
    clear hf3 hm3 b1 n1 hF3 e4
    go_wp2_with fail
    go_ret
    exact HE.out
  · have HF2 := hid hf2
    have HQ2 := hid (HQ.out.trans hn)
    have HFA := hid hfa
    obtain ⟨he, at', tk, dp, hR⟩ := hfa
    have e4 := hR.c4
    have q4 : ((e2 : Int) == 0) = false := by simp; omega
    obtain ⟨V, hV⟩ : ∃ V, w2.alloc (.cells #[.string ⟨#[110, 117, 109, 98, 101, 114]⟩, .string ⟨#[]⟩, .int .i64 0, .int .i64 0, .slice none 0 0] 126) = V := ⟨_, rfl⟩
    have b1 : Below w2.heap.size w2 V := by rw [← hV]; exact (Below.refl _ _).alloc (Nat.le_refl _) _
    have HE : Hid (XR R T q l w1 (.returned (.pointer (some ⟨w2.heap.size, 0, none⟩))) V) := ⟨_, rfl, HF2.out.more b1 hlt, by rw [HQ2.out]; exact HFA.out.keep (b1.block _ hR.lt), fun t jj h => by rw [HQ2.out] at h; cases h⟩
    clear hf2 hn hR he b1 c2 c4 HNU
    go_wp2_with fail
    go_ret
    exact HE.out

set_option maxRecDepth 100000 in
set_option maxHeartbeats 4000000 in
theorem rpart_name (R : Nat) (T : ByteArray) (f j l : Nat) (w : World) (hE : ∀ g, g ≤ f → EXP R T g) (hg : RgG w R T j l) (hk10 : ¬ (tok (by' T) j).kind = 10) (hk17 : ¬ (tok (by' T) j).kind = 17) (hd : ∀ c t, (tok (by' T) j).text = c :: t → isDg c = false) (q : Res Tr) (hq : q = pPart (by' T) (f + 1) j l) (hro : q ≠ .out) :
    Calls Tryz.prog 107 #[.pointer (some ⟨R, 0, none⟩)] w (XR R T q l w) := by
  have hlt := hg.h.lt
  have c1 := hg.h.c1
  have c2 := hg.h.c2
  have c4 := hg.h.c4
  have t1 : ((bs (tok (by' T) j).text).toList == [40]) = false := by rw [bs_list]; simp; exact fun e => hk10 ((tok_spl (by' T) j 10 (by decide) (by decide)).2 e)
  have t2 : ((bs (tok (by' T) j).text).toList == [45]) = false := by rw [bs_list]; simp; exact fun e => hk17 ((tok_spl (by' T) j 17 (by decide) (by decide)).2 e)
  obtain ⟨q1, hq1⟩ : ∃ q1, q1 = pName (by' T) j := ⟨_, rfl⟩
  have hqq : q = q1.bind fun nm a1 => if (tok (by' T) a1).kind = 10 then (pList (by' T) f a1 l).bind fun xs a5 => .ok (.node 2 nm.1 nm.2 0 xs) a5 else .ok (.node 1 nm.1 nm.2 0 []) a1 := by
    by_cases h2 : (tok (by' T) j).kind = 2
    · rw [hq, pPart, if_pos h2, hq1]
    · rw [hq, pPart, if_neg h2, if_neg hk10, if_neg hk17, hq1, pName_not h2]
      refine (pNum_not fun h3 => ?_).trans rfl
      have h4 := tok_word (by' T) j (Or.inr h3)
      rw [h3] at h4
      cases htx : (tok (by' T) j).text with
      | nil => rw [htx] at h4; cases h4
      | cons c t =>
        rw [htx, wkd] at h4
        have := hd c t htx
        split at h4
        · exact absurd h4 (kwd_ne _).2.2.2
        · split at h4
          · cases h4
          · split at h4
            · rename_i hall
              rw [List.all_cons, this] at hall
              cases hall
            · cases h4
  obtain ⟨W0, hW0⟩ : ∃ W0, w.alloc (.cells #[.string ⟨#[110, 97, 109, 101]⟩, .string ⟨#[]⟩, .int .i64 0, .int .i64 ((tok (by' T) j).at' : Int), .slice none 0 0] 126) = W0 := ⟨_, rfl⟩
  have hb0 : Below w.heap.size w W0 := by rw [← hW0]; exact (Below.refl w.heap.size w).alloc (Nat.le_refl _) _
  have hg0 : RgG W0 R T j l := hg.keep (hb0.block _ hlt)
  have HX0 : Hid (LS R T w w.heap.size W0 (.ok () j : Res Unit) l ⟨#[110, 97, 109, 101]⟩ ⟨#[]⟩ ((tok (by' T) j).at' : Int) (.slice none 0 0)) := ⟨Fr.below hb0 (Nat.le_of_lt hlt), Or.inl hg0, by rw [← hW0]; exact heap_alloc_new w _, Nat.le_refl _, hlt⟩
  have HNM := hid (rname_any R l T (.ok () j : Res Unit) W0 (Or.inl hg0))
  have HNR : Hid (∀ en w', RgNm R T (.ok () j : Res Unit) l W0 en w' → ∃ v, en = .returned (.string v) ∧ Fr R W0 w' ∧ RgW w' R T q1 l ∧ ∀ x j, q1 = .ok x j → v = bs x.1) := fun en w' h => by rw [hq1]; exact h
  have HAT : Hid (∀ x a, q1 = .ok x a → ((tok (by' T) j).at' : Int) = (x.2 : Int)) := fun x a h => by
    rw [hq1] at h
    rw [(pName_at h).2]
  have HTX : Hid ((bs (tok (by' T) j).text).toList == [] ∨ ∃ c, ((bs (tok (by' T) j).text).toList == []) = false ∧ isDg c = false ∧ ∃ h : 0 < (bs (tok (by' T) j).text).size, (bs (tok (by' T) j).text)[0] = c) := by
    cases htx : (tok (by' T) j).text with
    | nil => exact Or.inl (by rw [bs_list]; rfl)
    | cons c t => exact Or.inr ⟨c, by rw [bs_list]; rfl, hd c t htx, by rw [bs_size]; simp, by rw [bs_get]; simp⟩
  have HQQ := hid hqq
  have HRO := hid hro
  have HEX := hid hE
  have hs10 := fun a => tok_spl (by' T) a 10 (by decide) (by decide)
  have HS10 := hid hs10
  obtain ⟨X, hX⟩ : ∃ X, X = w.heap.size := ⟨_, rfl⟩
  rw [← hX] at HX0
  have HXX := hid hX
  generalize bs (tok (by' T) j).text = tx at *
  generalize ((tok (by' T) j).at' : Int) = A at *
  have HDG := hid (fun (c : UInt8) => rdig_any c w)
  clear hg hd hk10 hk17 hq hq1 hqq hro hE hb0 hg0 hs10
  rcases HTX.out with ht | ⟨c, ht, hdc, hp0, hcc⟩
  case' inl => have t3 : (tx.toList == []) = true := ht
  case' inr => have h00 : (0 : Int) < (tx.size : Int) := by omega
  case' inl =>
    clear HTX ht
    go_enter Tryz.func107, Tryz.ntmps107
    go_wp2_with fail
  case' inr =>
    clear HTX
    go_enter Tryz.func107, Tryz.ntmps107
    go_wp2_with fail
    refine (HDG.out c).mono ?_
    rintro e w1 ⟨rfl, hw1⟩
    have hw2 := hw1.symm
    subst hw2
    rw [hdc]
    go_wp2_with fail
  all_goals
    rw [← hX]
    clear hW0 hX c1 c2 c4
    refine HNM.out.mono ?_
    intro e w3 he
    obtain ⟨v, rfl, hf3, hm3, hv3⟩ := HNR.out e w3 he
    have HX3 := hid (HX0.out.step hf3 hm3)
    have HV3 := hid hv3
    have x1 := HX3.out.c1
    have y1 := HX3.out.fz 1
    obtain ⟨W4, hW4⟩ : ∃ W4, w3.setCell ⟨X, 1, none⟩ (.string v) = W4 := ⟨_, rfl⟩
    have HX4 : Hid (LS R T w X W4 q1 l ⟨#[110, 97, 109, 101]⟩ v A (.slice none 0 0)) := by unfold Hid; rw [← hW4]; exact HX3.out.put1 v
    have HEN : Hid ((∀ nm a1, q1 = .ok nm a1 → ¬ (tok (by' T) a1).kind = 10) → XR R T q l w (.returned (.pointer (some ⟨X, 0, none⟩))) W4) := fun hno => by
      have hq : q = q1.bind fun nm a1 => .ok (.node 1 nm.1 nm.2 0 []) a1 := by
        rw [HQQ.out]
        cases hc : q1 with
        | out => rfl
        | bad e a => rfl
        | ok nm a1 =>
          show (if (tok (by' T) a1).kind = 10 then _ else _) = _
          rw [if_neg (hno nm a1 hc)]
          rfl
      refine ⟨_, rfl, HX4.out.fr, by rw [hq]; exact HX4.out.rm.map _, fun t jj h => ?_⟩
      rw [hq] at h
      obtain ⟨nm, a1, h1, h⟩ := Res.bind_ok h
      injection h with h _
      subst h
      refine ⟨X, none, 0, A, rfl, HX4.out.hX, ?_, fun _ => HAT.out _ _ h1, trivial⟩
      have := HX4.out.xb
      rw [HV3.out _ _ h1] at this
      exact this
    clear hf3 hm3 hv3 he
    rcases HX4.out.rm.cases with ⟨nm, a1, hr, hg4⟩ | ⟨e, a, hfa, hr⟩
    · have d4 := hg4.h.c4
      have d2 := hg4.h.c2
      by_cases hk : (tok (by' T) a1).kind = 10
      · have t10 : ((bs (tok (by' T) a1).text).toList == [40]) = true := by rw [bs_list, (HS10.out a1).1 hk]; rfl
        have hq := HQQ.out
        rw [hr] at hq
        have hq : q = (pList (by' T) f a1 l).bind fun xs a5 => .ok (.node 2 nm.1 nm.2 0 xs) a5 := by
          rw [hq]
          show (if (tok (by' T) a1).kind = 10 then _ else _) = _
          rw [if_pos hk]
        have hf1 : ∃ f', f = f' + 1 := by
          cases f with
          | zero => rw [pList] at hq; exact absurd hq HRO.out
          | succ f' => exact ⟨f', rfl⟩
        obtain ⟨f', hf'⟩ := hf1
        have HC := hid (rcall_any R X f' a1 l T ⟨#[110, 97, 109, 101]⟩ v A w W4 (fun g hg => HEX.out g (by omega)) (HX4.out.step (Fr.refl _ _) (Or.inl hg4)) hg4 hk (pList (by' T) f a1 l) (by rw [hf']) (Res.out_bind (by rw [← hq]; exact HRO.out)))
        have HQ := hid hq
        have HVN := hid (HV3.out _ _ hr)
        have HAN := hid (HAT.out _ _ hr)
        generalize bs (tok (by' T) a1).text = ty at *
        clear hr hg4 hk hq hf' HX3
        go_wp2_with fail
        refine HC.out.mono ?_
        rintro e w5 ⟨rfl, a, n, cc, hL5, hk5⟩
        have HE : Hid (XR R T q l w (.returned (.pointer (some ⟨X, 0, none⟩))) w5) := by
          refine ⟨_, rfl, hL5.fr, by rw [HQ.out]; exact hL5.rm.map _, fun t jj h => ?_⟩
          rw [HQ.out] at h
          obtain ⟨xs, a5, h1, h⟩ := Res.bind_ok h
          injection h with h _
          subst h
          obtain ⟨e1, e2⟩ := hk5 _ _ h1
          refine ⟨X, a, cc, A, rfl, hL5.hX, ?_, fun _ => HAN.out, e2⟩
          have := hL5.xb
          rw [HVN.out, e1] at this
          exact this
        clear hL5 hk5
        go_wp2_with fail
        go_ret
        exact HE.out
      · have t10 : ((bs (tok (by' T) a1).text).toList == [40]) = false := by rw [bs_list]; simp; exact fun e => hk ((HS10.out a1).2 e)
        have HE := hid (HEN.out (fun nm' a' h => by rw [hr] at h; injection h with _ h; subst h; exact hk))
        generalize bs (tok (by' T) a1).text = ty at *
        clear hr hg4 hk HX3
        go_wp2_with fail
        go_ret
        exact HE.out
    · have HE := hid (HEN.out (fun nm' a' h => by
        rcases hr with h1 | ⟨x', j', h1, h0, _⟩
        · rw [h1] at h; cases h
        · rw [h1] at h; injection h with _ h; subst h; omega))
      obtain ⟨he, at', tk, dp, hR⟩ := hfa
      have d4 := hR.c4
      have q4 : ((e : Int) == 0) = false := by simp; omega
      clear hr hR he HX3
      go_wp2_with fail
      go_ret
      exact HE.out
theorem rpart_any (R : Nat) (T : ByteArray) (f : Nat) (hE : ∀ g, g ≤ f → EXP R T g) (hP : PRT R T f) : PRT R T (f + 1) := fun α r l w hm hro => by
  rcases hm.cases with ⟨x, j, rfl, hg⟩ | ⟨e, a, hf, hr⟩
  · by_cases h10 : (tok (by' T) j).kind = 10
    · exact rpart_brack R T f j l w (hE f (Nat.le_refl _)) hg h10 _ rfl hro
    · by_cases h17 : (tok (by' T) j).kind = 17
      · exact rpart_minus R T f j l w hP hg h17 _ rfl hro
      · by_cases hd : ∃ c t, (tok (by' T) j).text = c :: t ∧ isDg c = true
        · obtain ⟨c, t, ht, hc⟩ := hd
          exact rpart_num R T f j l w hg c t ht hc _ rfl
        · refine rpart_name R T f j l w hE hg h10 h17 (fun c t ht => ?_) _ rfl hro
          cases hc : isDg c with
          | false => rfl
          | true => exact absurd ⟨c, t, ht, hc⟩ hd
  · refine rpart_bad R T l e a w hf _ ?_
    rcases hr with rfl | ⟨x, j, rfl, h0, rfl, rfl⟩
    · rfl
    · rcases pPart_zero (f := f + 1) (l := l) h0 with h | h
      · exact absurd h hro
      · exact h
theorem rexpr_none (R : Nat) (T : ByteArray) : EXP R T 0 := fun α r l w hm hro => by
  cases r with
  | out => exact hm.elim
  | bad e a => exact rexpr_bad R T l e a w hm _ rfl
  | ok x j => exact absurd (show pExpr (by' T) 0 j l = .out by rw [pExpr]) hro
theorem rpart_none (R : Nat) (T : ByteArray) : PRT R T 0 := fun α r l w hm hro => by
  cases r with
  | out => exact hm.elim
  | bad e a => exact rpart_bad R T l e a w hm _ rfl
  | ok x j => exact absurd (show pPart (by' T) 0 j l = .out by rw [pPart]) hro
theorem rproduct_none (R : Nat) (T : ByteArray) : PRD R T 0 := fun α r l w hm hro => by
  cases r with
  | out => exact hm.elim
  | bad e a => exact rproduct_any R T 0 (fun g hg => by rw [Nat.le_zero.1 hg]; exact rpart_none R T) α (.bad e a) l w hm (fun h => (nomatch h))
  | ok x j => exact absurd (show pProd (by' T) 0 j l = .out by rw [pProd]) hro
theorem rsum_none (R : Nat) (T : ByteArray) : SUM R T 0 := fun α r l w hm hro => by
  cases r with
  | out => exact hm.elim
  | bad e a => exact rsum_any R T 0 (fun g hg => by rw [Nat.le_zero.1 hg]; exact rproduct_none R T) α (.bad e a) l w hm (fun h => (nomatch h))
  | ok x j => exact absurd (show pSum (by' T) 0 j l = .out by rw [pSum]) hro
/-- expr, sum, product and part read as they should -/
theorem rgall_any (R : Nat) (T : ByteArray) : ∀ (f : Nat), EXP R T f ∧ SUM R T f ∧ PRD R T f ∧ PRT R T f := by
  intro f
  induction f using Nat.strongRecOn with
  | _ f ih =>
    cases f with
    | zero => exact ⟨rexpr_none R T, rsum_none R T, rproduct_none R T, rpart_none R T⟩
    | succ f =>
      exact ⟨rexpr_any R T f (ih f (by omega)).1 (ih f (by omega)).2.1, rsum_any R T f (fun g hg => (ih g (by omega)).2.2.1), rproduct_any R T f (fun g hg => (ih g (by omega)).2.2.2), rpart_any R T f (fun g hg => (ih g (by omega)).1) (ih f (by omega)).2.2.2⟩

end Go.Proofs.YtmmgkdcojkmlcaaGreatDoor

namespace Go.Proofs.YtmmgkdcojkmlcaaGreatDoor
open Go.RowKit

/-- a function of the reference in memory -/
def RFn (lo : Nat) (w : World) (g : FnT) (X : Nat) : Prop := ∃ am cm aw cw pb, lo ≤ X ∧ w.heap[X]? = some (.cells #[.string (bs g.name), .int .i64 (g.at' : Int), .slice am g.more.length cm, .slice aw g.more.length cw, .pointer pb] 51 (0, 0)) ∧ (g.more.length ≤ cm ∧ (am = none → g.more.length = 0 ∧ cm = 0)) ∧ XT lo w g.body (.pointer pb) ∧
  (∀ i x, g.more[i]? = some x → ∃ k, am = some ⟨k, 0, none⟩ ∧ lo ≤ k ∧ w.cell? ⟨k, i, none⟩ = some (.string (bs x.1))) ∧ (∀ i x, g.more[i]? = some x → ∃ k, aw = some ⟨k, 0, none⟩ ∧ lo ≤ k ∧ w.cell? ⟨k, i, none⟩ = some (.int .i64 (x.2 : Int)))
theorem RFn.keep {lo lo' : Nat} {w w' : World} {g : FnT} {X : Nat} (h : RFn lo w g X) (hl : lo' ≤ lo) (hk : ∀ b, lo ≤ b → b < w.heap.size → w'.heap[b]? = w.heap[b]?) : RFn lo' w' g X := by
  obtain ⟨am, cm, aw, cw, pb, h1, h2, hcm, h3, h4, h5⟩ := h
  refine ⟨am, cm, aw, cw, pb, Nat.le_trans hl h1, (hk X h1 (Array.getElem?_eq_some_iff.1 h2).1).trans h2, hcm, (h3.keep hk).mono hl, fun i x hx => ?_, fun i x hx => ?_⟩
  · obtain ⟨k, k1, k2, k3⟩ := h4 i x hx
    exact ⟨k, k1, Nat.le_trans hl k2, (World.cell?_of_block (a := ⟨k, i, none⟩) (hk k k2 (World.block_lt_of_cell? _ _ k3))).trans k3⟩
  · obtain ⟨k, k1, k2, k3⟩ := h5 i x hx
    exact ⟨k, k1, Nat.le_trans hl k2, (World.cell?_of_block (a := ⟨k, i, none⟩) (hk k k2 (World.block_lt_of_cell? _ _ k3))).trans k3⟩
/-- a function that is being made, while the text is read on -/
structure RgFS {α : Type} (R : Nat) (T : ByteArray) (w : World) (X : Nat) (W : World) (q : Res α) (nm : ByteArray) (A : Int) (mv wv bv : Value) : Prop where
  fr : Fr R w W
  rm : RgW W R T q 0
  xb : W.heap[X]? = some (.cells #[.string nm, .int .i64 A, mv, wv, bv] 51 (0, 0))
  hX : w.heap.size ≤ X
  hR : R < w.heap.size
section
variable {α β : Type} {R X : Nat} {T nm : ByteArray} {w W W' : World} {q : Res α} {q' : Res β} {A : Int} {mv wv bv : Value}
theorem RgFS.lt (h : RgFS R T w X W q nm A mv wv bv) : X < W.heap.size := (Array.getElem?_eq_some_iff.1 h.xb).1
theorem RgFS.step (h : RgFS R T w X W q nm A mv wv bv) (f : Fr R W W') (m : RgW W' R T q' 0) : RgFS R T w X W' q' nm A mv wv bv :=
  ⟨h.fr.trans f, m, (f.2 X h.lt (by have := h.hX; have := h.hR; omega)).trans h.xb, h.hX, h.hR⟩
theorem RgFS.alloc (h : RgFS R T w X W q nm A mv wv bv) (o : Obj) : RgFS R T w X (W.alloc o) q nm A mv wv bv :=
  h.step (Fr.below ((Below.refl _ _).alloc (Nat.le_refl _) _) (Nat.le_of_lt h.rm.lt)) (h.rm.keep (((Below.refl _ _).alloc (Nat.le_refl _) _).block _ h.rm.lt))
theorem RgFS.drew (h : RgFS R T w X W q nm A mv wv bv) : RgFS R T w X W.drew q nm A mv wv bv := ⟨h.fr.drew, h.rm.keep rfl, h.xb, h.hX, h.hR⟩
theorem RgFS.grown {o : Option Nat} {base : Nat} (h : RgFS R T w X W q nm A mv wv bv) (hg : W.grownBy W' o) (ho : ∀ k, o = some k → base ≤ k) (hb : X < base) : RgFS R T w X W' q nm A mv wv bv := by
  have hR' : some R ≠ o := fun e => by have := ho R e.symm; have := h.hX; have := h.hR; omega
  have hX' : some X ≠ o := fun e => by have := ho X e.symm; omega
  exact ⟨h.fr.grown hg (fun k e => by have := ho k e; have := h.hX; omega) h.hR, h.rm.keep (hg.block R h.rm.lt hR'), (hg.block X h.lt hX').trans h.xb, h.hX, h.hR⟩
theorem RgFS.put0 (h : RgFS R T w X W q nm A mv wv bv) (z : ByteArray) : RgFS R T w X (W.setCell ⟨X, 0, none⟩ (.string z)) q z A mv wv bv :=
  ⟨h.fr.setNew h.hX h.hR 0 _, h.rm.keep (heap_setCell_other _ _ _ _ (by show R ≠ X; have := h.hX; have := h.hR; omega)), heap_setCell_same _ X 0 _ _ _ h.xb, h.hX, h.hR⟩
theorem RgFS.put1 (h : RgFS R T w X W q nm A mv wv bv) (z : Int) : RgFS R T w X (W.setCell ⟨X, 1, none⟩ (.int .i64 z)) q nm z mv wv bv :=
  ⟨h.fr.setNew h.hX h.hR 1 _, h.rm.keep (heap_setCell_other _ _ _ _ (by show R ≠ X; have := h.hX; have := h.hR; omega)), heap_setCell_same _ X 1 _ _ _ h.xb, h.hX, h.hR⟩
theorem RgFS.put2 (h : RgFS R T w X W q nm A mv wv bv) (z : Value) : RgFS R T w X (W.setCell ⟨X, 2, none⟩ z) q nm A z wv bv :=
  ⟨h.fr.setNew h.hX h.hR 2 _, h.rm.keep (heap_setCell_other _ _ _ _ (by show R ≠ X; have := h.hX; have := h.hR; omega)), heap_setCell_same _ X 2 _ _ _ h.xb, h.hX, h.hR⟩
theorem RgFS.put3 (h : RgFS R T w X W q nm A mv wv bv) (z : Value) : RgFS R T w X (W.setCell ⟨X, 3, none⟩ z) q nm A mv z bv :=
  ⟨h.fr.setNew h.hX h.hR 3 _, h.rm.keep (heap_setCell_other _ _ _ _ (by show R ≠ X; have := h.hX; have := h.hR; omega)), heap_setCell_same _ X 3 _ _ _ h.xb, h.hX, h.hR⟩
theorem RgFS.put4 (h : RgFS R T w X W q nm A mv wv bv) (z : Value) : RgFS R T w X (W.setCell ⟨X, 4, none⟩ z) q nm A mv wv z :=
  ⟨h.fr.setNew h.hX h.hR 4 _, h.rm.keep (heap_setCell_other _ _ _ _ (by show R ≠ X; have := h.hX; have := h.hR; omega)), heap_setCell_same _ X 4 _ _ _ h.xb, h.hX, h.hR⟩
theorem RgFS.c0 (h : RgFS R T w X W q nm A mv wv bv) : W.cell? ⟨X, 0, none⟩ = some (.string nm) := by simp [World.cell?, h.xb]
theorem RgFS.c1 (h : RgFS R T w X W q nm A mv wv bv) : W.cell? ⟨X, 1, none⟩ = some (.int .i64 A) := by simp [World.cell?, h.xb]
theorem RgFS.c2 (h : RgFS R T w X W q nm A mv wv bv) : W.cell? ⟨X, 2, none⟩ = some mv := by simp [World.cell?, h.xb]
theorem RgFS.c3 (h : RgFS R T w X W q nm A mv wv bv) : W.cell? ⟨X, 3, none⟩ = some wv := by simp [World.cell?, h.xb]
theorem RgFS.c4 (h : RgFS R T w X W q nm A mv wv bv) : W.cell? ⟨X, 4, none⟩ = some bv := by simp [World.cell?, h.xb]
theorem RgFS.fz (h : RgFS R T w X W q nm A mv wv bv) (i : Nat) : W.frozen? ⟨X, i, none⟩ = false := frozen_of_row W X i _ _ h.xb
end
/-- names in brackets, and where they stand, in two rows of the call's own -/
structure RgRow (base : Nat) (w : World) (mv wv : Value) (n : Nat) (xs : List (List UInt8 × Nat)) : Prop where
  m : w.ownsRow base 9 1 mv n (xs.map fun x => .string (bs x.1))
  s : w.ownsRow base 3 1 wv n (xs.map fun x => .int .i64 (x.2 : Int))
  ne : ∀ k, mv.ownBlock = some k → ¬ wv.ownBlock = some k
theorem RgRow.fr {R base n : Nat} {w w' : World} {mv wv : Value} {xs : List (List UInt8 × Nat)} (h : RgRow base w mv wv n xs) (f : Fr R w w') (hb : R < base) : RgRow base w' mv wv n xs := ⟨ownsRow_fr h.m f hb, ownsRow_fr h.s f hb, h.ne⟩
theorem RgRow.len {base n : Nat} {w : World} {mv wv : Value} {xs : List (List UInt8 × Nat)} (h : RgRow base w mv wv n xs) : n = xs.length := by have := h.m.1; simpa using this.symm
theorem RgRow.nil (base : Nat) (w : World) : RgRow base w (.slice none 0 0) (.slice none 0 0) 0 [] := ⟨World.ownsRow_nil _ _ _ _, World.ownsRow_nil _ _ _ _, fun k h => by simp [Value.ownBlock] at h⟩
/-- what is left of the row when the function is made -/
theorem ownsRow_room {base : Nat} {w : World} {e : TypeId} {k n c : Nat} {a : Option Addr} {xs : List Value} (h : w.ownsRow base e k (.slice a n c) n xs) : n ≤ c := by
  rcases h.2 with ⟨e1, h0⟩ | ⟨g, cap, cur, e1, hbs, hg, rest⟩
  · omega
  · injection e1 with _ _ e3
    have := rest.1
    first | omega | (subst e3; omega)
theorem ownsRow_none {base : Nat} {w : World} {e : TypeId} {k n c : Nat} {a : Option Addr} {xs : List Value} (h : w.ownsRow base e k (.slice a n c) n xs) : a = none → n = 0 ∧ c = 0 := by
  intro ha
  rcases h.2 with ⟨e1, h0⟩ | ⟨g, cap, cur, e1, _⟩
  · injection e1 with _ _ e3
    exact ⟨h0, e3⟩
  · injection e1 with e2
    rw [ha] at e2; cases e2
theorem ownsRow_at {base : Nat} {w : World} {e : TypeId} {n c : Nat} {a : Option Addr} {xs : List Value} (h : w.ownsRow base e 1 (.slice a n c) n xs) (i : Nat) (v : Value) (hi : xs[i]? = some v) : ∃ k, a = some ⟨k, 0, none⟩ ∧ base ≤ k ∧ w.cell? ⟨k, i, none⟩ = some v := by
  rcases h.2 with ⟨e1, h0⟩ | ⟨g, cap, cur, e1, hbs, hg, rest⟩
  · have h1 := h.1
    have h2 := (List.getElem?_eq_some_iff.1 hi).1
    rw [h0] at h1
    omega
  · injection e1 with e2 e3 e4
    subst e2
    have h5 := h.cells (g := g) rfl i v hi
    have hadd : (⟨g, 0, none⟩ : Addr).add i = ⟨g, i, none⟩ := by unfold Addr.add; split <;> simp_all
    rw [hadd] at h5
    exact ⟨g, rfl, hbs, h5⟩

end Go.Proofs.YtmmgkdcojkmlcaaGreatDoor
