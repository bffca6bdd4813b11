/- Programs as text, plainly: what is read lies behind. The reference of programs as text: sum. The reference of programs as text: product. -/
import Derived.Test.YtlgcmeachjjmgajGreatDoorBeA
import Derived.Test.YtlgcmeachjjmgajGreatDoorBeH
namespace Go.Proofs.YtlgcmeachjjmgajGreatDoor

/-- behind a place, if it is a result -/
def Res.Fx {α : Type} (N a : Nat) : Res α → Prop
  | .ok _ j => a ≤ j ∧ j ≤ N
  | .bad _ _ => True
  | .out => True
theorem Res.Fw.x {α : Type} {N a : Nat} {r : Res α} (h : r.Fw N a) : r.Fx N a := by
  cases r with
  | ok x j => exact h
  | bad e at' => trivial
  | out => trivial
theorem Res.Fx.bind {α β : Type} {N a b : Nat} {r : Res α} {f : α → Nat → Res β} (h : r.Fx N a) (hf : ∀ x j, r = .ok x j → a ≤ j → j ≤ N → (f x j).Fx N b) : (r.bind f).Fx N b := by
  cases r with
  | ok x j => exact hf x j rfl h.1 h.2
  | bad e at' => trivial
  | out => trivial
theorem Res.Fx.mono {α : Type} {N a b : Nat} {r : Res α} (h : r.Fx N a) (hb : b ≤ a) : r.Fx N b := by
  cases r with
  | ok x j => exact ⟨Nat.le_trans hb h.1, h.2⟩
  | bad e at' => trivial
  | out => trivial
theorem pTake_fx (L : List UInt8) (k a : Nat) (h : a ≤ L.length) (hk : k ≠ 1) : (pTake L k a).Fx L.length (a + 1) := (pTake_fw L k a h hk).x
theorem pEnter_fx (L : List UInt8) (k a l : Nat) (h : a ≤ L.length) (hk : k ≠ 1) : (pEnter L k a l).Fx L.length (a + 1) := (pEnter_fw L k a l h hk).x
theorem pName_fx (L : List UInt8) (a : Nat) (h : a ≤ L.length) : (pName L a).Fx L.length (a + 1) := (pName_fw L a h).x
theorem pNum_fx (L : List UInt8) (a : Nat) (h : a ≤ L.length) : (pNum L a).Fx L.length (a + 1) := (pNum_fw L a h).x

/-- what is read lies behind -/
theorem p_fx (L : List UInt8) : ∀ (f : Nat),
    (∀ a l, a ≤ L.length  → (pExpr L f a l).Fx L.length (a + 1)) ∧
    (∀ a l, a ≤ L.length  → (pSum L f a l).Fx L.length (a + 1)) ∧
    (∀ x a l, a ≤ L.length  → (pSumL L f x a l).Fx L.length a) ∧
    (∀ a l, a ≤ L.length  → (pProd L f a l).Fx L.length (a + 1)) ∧
    (∀ x a l, a ≤ L.length  → (pProdL L f x a l).Fx L.length a) ∧
    (∀ a l, a ≤ L.length  → (pPart L f a l).Fx L.length (a + 1)) ∧
    (∀ a l, a ≤ L.length  → (pList L f a l).Fx L.length (a + 1)) ∧
    (∀ xs a l, a ≤ L.length  → (pArgs L f xs a l).Fx L.length a)
  | 0 => by
    refine ⟨?_, ?_, ?_, ?_, ?_, ?_, ?_, ?_⟩
    all_goals (intros; first | (rw [pExpr]; trivial) | (rw [pSum]; trivial) | (rw [pSumL]; trivial) | (rw [pProd]; trivial) | (rw [pProdL]; trivial) | (rw [pPart]; trivial) | (rw [pList]; trivial) | (rw [pArgs]; trivial))
  | f + 1 => by
    obtain ⟨iE, iS, iSL, iP, iPL, iX, iLs, iA⟩ := p_fx L f
    refine ⟨?_, ?_, ?_, ?_, ?_, ?_, ?_, ?_⟩
    · intro a l ha
      rw [pExpr]
      split
      · refine (pEnter_fx L 5 a l ha (by decide)).bind fun _ a1 _ h1 m1 => ?_
        refine (pName_fx L a1 m1).bind fun nm a2 _ h2 m2 => ?_
        refine (pTake_fx L 14 a2 m2 (by decide)).bind fun _ a3 _ h3 m3 => ?_
        refine (iE a3 _ m3).bind fun _ a4 _ h4 m4 => ?_
        refine (pTake_fx L 13 a4 m4 (by decide)).bind fun _ a5 _ h5 m5 => ?_
        refine (iE a5 _ m5).bind fun _ a6 _ h6 m6 => ?_
        exact ⟨by omega, m6⟩
      · split
        · refine (pEnter_fx L 6 a l ha (by decide)).bind fun _ a1 _ h1 m1 => ?_
          refine (iS a1 _ m1).bind fun _ a2 _ h2 m2 => ?_
          refine (pTake_fx L 15 a2 m2 (by decide)).bind fun _ a3 _ h3 m3 => ?_
          refine (iS a3 _ m3).bind fun _ a4 _ h4 m4 => ?_
          refine (pTake_fx L 13 a4 m4 (by decide)).bind fun _ a5 _ h5 m5 => ?_
          refine (iE a5 _ m5).bind fun _ a6 _ h6 m6 => ?_
          exact ⟨by omega, m6⟩
        · split
          · refine (pEnter_fx L 7 a l ha (by decide)).bind fun _ a1 _ h1 m1 => ?_
            refine (iE a1 _ m1).bind fun _ a2 _ h2 m2 => ?_
            refine (pTake_fx L 8 a2 m2 (by decide)).bind fun _ a3 _ h3 m3 => ?_
            refine (iE a3 _ m3).bind fun _ a4 _ h4 m4 => ?_
            refine (pTake_fx L 9 a4 m4 (by decide)).bind fun _ a5 _ h5 m5 => ?_
            refine (iE a5 _ m5).bind fun _ a6 _ h6 m6 => ?_
            exact ⟨by omega, m6⟩
          · refine (iS a l ha).bind fun _ a1 _ h1 m1 => ?_
            split
            · rename_i hk
              obtain ⟨h2, m2⟩ := nx_fw L a1 15 m1 hk (by decide)
              refine (iS _ l m2).bind fun _ a3 _ h3 m3 => ?_
              exact ⟨by omega, m3⟩
            · exact ⟨h1, m1⟩
    · intro a l ha
      rw [pSum]
      refine (iP a l ha).bind fun x a1 _ h1 m1 => ?_
      exact (iSL x a1 l m1).mono h1
    · intro x a l ha
      rw [pSumL]
      split
      · rename_i hk
        obtain ⟨h2, m2⟩ := nx_fw L a 16 ha hk (by decide)
        refine (iP _ l m2).bind fun _ a3 _ h3 m3 => ?_
        exact (iSL _ a3 l m3).mono (by omega)
      · split
        · rename_i hk
          obtain ⟨h2, m2⟩ := nx_fw L a 17 ha hk (by decide)
          refine (iP _ l m2).bind fun _ a3 _ h3 m3 => ?_
          exact (iSL _ a3 l m3).mono (by omega)
        · exact ⟨Nat.le_refl _, ha⟩
    · intro a l ha
      rw [pProd]
      refine (iX a l ha).bind fun x a1 _ h1 m1 => ?_
      exact (iPL x a1 l m1).mono h1
    · intro x a l ha
      rw [pProdL]
      split
      · rename_i hk
        obtain ⟨h2, m2⟩ := nx_fw L a 18 ha hk (by decide)
        refine (iX _ l m2).bind fun _ a3 _ h3 m3 => ?_
        exact (iPL _ a3 l m3).mono (by omega)
      · split
        · rename_i hk
          obtain ⟨h2, m2⟩ := nx_fw L a 19 ha hk (by decide)
          refine (iX _ l m2).bind fun _ a3 _ h3 m3 => ?_
          exact (iPL _ a3 l m3).mono (by omega)
        · exact ⟨Nat.le_refl _, ha⟩
    · intro a l ha
      rw [pPart]
      split
      · refine (pName_fx L a ha).bind fun nm a1 _ h1 m1 => ?_
        split
        · refine (iLs a1 l m1).bind fun xs a2 _ h2 m2 => ?_
          exact ⟨by omega, m2⟩
        · exact ⟨h1, m1⟩
      · split
        · refine (pEnter_fx L 10 a l ha (by decide)).bind fun _ a1 _ h1 m1 => ?_
          refine (iE a1 _ m1).bind fun _ a2 _ h2 m2 => ?_
          refine (pTake_fx L 11 a2 m2 (by decide)).bind fun _ a3 _ h3 m3 => ?_
          exact ⟨by omega, m3⟩
        · split
          · refine (pEnter_fx L 17 a l ha (by decide)).bind fun _ a1 _ h1 m1 => ?_
            refine (iX a1 _ m1).bind fun _ a2 _ h2 m2 => ?_
            exact ⟨by omega, m2⟩
          · exact pNum_fx L a ha
    · intro a l ha
      rw [pList]
      refine (pEnter_fx L 10 a l ha (by decide)).bind fun _ a1 _ h1 m1 => ?_
      refine Res.Fx.bind (a := a1) ?_ fun xs a3 _ h3 m3 => ?_
      · split
        · exact ⟨Nat.le_refl _, m1⟩
        · refine (iE a1 _ m1).bind fun x a2 _ h2 m2 => ?_
          exact (iA _ a2 _ m2).mono (by omega)
      · refine (pTake_fx L 11 a3 m3 (by decide)).bind fun _ a4 _ h4 m4 => ?_
        exact ⟨by omega, m4⟩
    · intro xs a l ha
      rw [pArgs]
      split
      · rename_i hk
        obtain ⟨h2, m2⟩ := nx_fw L a 12 ha hk (by decide)
        refine (iE _ l m2).bind fun _ a3 _ h3 m3 => ?_
        exact (iA _ a3 l m3).mono (by omega)
      · exact ⟨Nat.le_refl _, ha⟩

theorem pNames_fx (L : List UInt8) : ∀ (f : Nat) (xs : List (List UInt8 × Nat)) (a : Nat), a ≤ L.length → (pNames L f xs a).Fx L.length a
  | 0, _, _, _ => by rw [pNames]; trivial
  | f + 1, xs, a, ha => by
    rw [pNames]
    split
    · rename_i hk
      obtain ⟨h2, m2⟩ := nx_fw L a 12 ha hk (by decide)
      refine (pName_fx L _ m2).bind fun x j _ h3 m3 => ?_
      exact (pNames_fx L f _ j m3).mono (by omega)
    · exact ⟨Nat.le_refl _, ha⟩
theorem pBrack_fx (L : List UInt8) (f a : Nat) (ha : a ≤ L.length) : (pBrack L f a).Fx L.length (a + 1) := by
  unfold pBrack
  refine (pTake_fx L 10 a ha (by decide)).bind fun _ a1 _ h1 m1 => ?_
  refine Res.Fx.bind (a := a1) ?_ fun xs a3 _ h3 m3 => ?_
  · split
    · exact ⟨Nat.le_refl _, m1⟩
    · refine (pName_fx L a1 m1).bind fun x a2 _ h2 m2 => ?_
      exact (pNames_fx L f _ a2 m2).mono (by omega)
  · refine (pTake_fx L 11 a3 m3 (by decide)).bind fun _ a4 _ h4 m4 => ?_
    exact ⟨by omega, m4⟩
theorem pFun_fx (L : List UInt8) (f a : Nat) (ha : a ≤ L.length) : (pFun L f a).Fx L.length (a + 1) := by
  unfold pFun
  refine (pTake_fx L 4 a ha (by decide)).bind fun _ a1 _ h1 m1 => ?_
  refine (pName_fx L a1 m1).bind fun nm a2 _ h2 m2 => ?_
  refine (pBrack_fx L f a2 m2).bind fun more a3 _ h3 m3 => ?_
  refine (pTake_fx L 14 a3 m3 (by decide)).bind fun _ a4 _ h4 m4 => ?_
  refine ((p_fx L f).1 a4 0 m4).bind fun x a5 _ h5 m5 => ?_
  exact ⟨by omega, m5⟩

end Go.Proofs.YtlgcmeachjjmgajGreatDoor

namespace Go.Proofs.YtlgcmeachjjmgajGreatDoor
open Go.RowKit

/-- how much is left to read -/
def rgm (R : Nat) (T : ByteArray) (w : World) : Nat := match w.cell? ⟨R, 4, none⟩, w.cell? ⟨R, 1, none⟩ with
  | some (.int _ e), some (.int _ a) => if e = 0 then T.size + 1 - a.toNat else 0
  | _, _ => 0
theorem RgG.rgm {w : World} {R : Nat} {T : ByteArray} {j l : Nat} (h : RgG w R T j l) : rgm R T w = T.size + 1 - (tok (by' T) j).at' := by
  unfold Go.Proofs.YtlgcmeachjjmgajGreatDoor.rgm
  rw [h.h.c4, h.h.c1]
  simp
theorem rgm_lt {α : Type} {w : World} {R l N : Nat} {T : ByteArray} {r : Res α} (h : RgW w R T r l) (hp : ∀ x j, r = .ok x j → N < j ∧ j ≤ T.size) (hN : N ≤ T.size) : rgm R T w < T.size + 1 - N := by
  rcases h.cases with ⟨x, j, hr, hg⟩ | ⟨e, a, ⟨he, at', tk, dp, hR⟩, hr⟩
  · rw [hg.rgm]
    have h1 := (tok_at (by' T) j (by rw [by_len]; exact hg.le)).1
    have := hp x j hr
    omega
  · unfold rgm
    rw [hR.c4, hR.c1]
    simp only
    rw [if_neg (by omega)]
    omega

set_option maxRecDepth 100000 in
set_option maxHeartbeats 2000000 in
theorem rsum_any (R : Nat) (T : ByteArray) (f : Nat) (hP : ∀ g, g ≤ f → PRD R T g) : SUM R T (f + 1) := fun α r l w hm hro => by
  have hlt := hm.lt
  obtain ⟨q, hq⟩ : ∃ q, q = r.bind fun _ j => pSum (by' T) (f + 1) j l := ⟨_, rfl⟩
  rw [← hq] at hro ⊢
  obtain ⟨q1, hq1⟩ : ∃ q1, q1 = r.bind fun _ j => pProd (by' T) f j l := ⟨_, rfl⟩
  have hqq : q = q1.bind fun x j => pSumL (by' T) f x j l := by
    rw [hq, hq1]
    cases r with
    | out => rfl
    | bad e a => rfl
    | ok x j =>
      show pSum (by' T) (f + 1) j l = (pProd (by' T) f j l).bind _
      rw [pSum]
  have n1 : q1 ≠ .out := Res.out_bind (by rw [← hqq]; exact hro)
  have HC := hid (hP f (Nat.le_refl _) α r l w hm (by rw [← hq1]; exact n1))
  rw [← hq1] at HC
  have HP := hid (fun (g : Nat) (hg : g ≤ f) (x : Tr) (a : Nat) (W : World) (hm : RgW W R T (.ok x a : Res Tr) l) (hn : pProd (by' T) g a l ≠ .out) => hP g hg Tr (.ok x a) l W hm hn)
  have HQQ := hid hqq
  have HRO := hid hro
  have HON := hid (fun (j : Nat) (W : World) (h : RgG W R T j l) => ron_any R j l T W h)
  clear hm hro hq hq1 hqq n1 hP
  go_enter Tryz.func86, Tryz.ntmps86
  go_wp2_with fail
  refine HC.out.mono ?_
  rintro e w1 ⟨p1, rfl, hf1, hm1, ht1⟩
  have HF1 := hid hf1
  have HM1 := hid hm1
  have HT1 := hid ht1
  clear hf1 hm1 ht1 HC
  go_wp2_with fail
  go_loopw [3] (fun v wr => ∃ (p : Option Addr) (rc : Res Tr), v = .pointer p ∧ Hid (Fr R w wr) ∧ Hid (RgW wr R T rc l) ∧ Hid (∀ t j, rc = .ok t j → XT w.heap.size wr t (.pointer p)) ∧ Hid (∃ g, g ≤ f ∧ q = rc.bind fun x j => pSumL (by' T) g x j l)) (fun _ wr => rgm R T wr)
  case atStart => exact ⟨_, _, rfl, HF1, HM1, HT1, f, Nat.le_refl _, HQQ.out⟩
  case round =>
    obtain ⟨p, rc, rfl, hF, hM, hT, hG⟩ := hrel
    clear HF1 HM1 HT1 HQQ
    rcases hM.out.cases with ⟨x, j, hr, hg⟩ | ⟨e, a, hfa, hr⟩
    · have c4 := hg.h.c4
      have c2 := hg.h.c2
      obtain ⟨g, hgf, hq2⟩ := hG.out
      rw [hr] at hq2
      have hq2 : q = pSumL (by' T) g x j l := hq2
      have hgx : ∃ g', g' + 1 ≤ f ∧ q = pSumL (by' T) (g' + 1) x j l := by
        cases g with
        | zero => rw [pSumL] at hq2; exact absurd hq2 HRO.out
        | succ g' => exact ⟨g', hgf, hq2⟩
      obtain ⟨g', hgf', hq3⟩ := hgx
      rw [pSumL] at hq3
      have HX := hid (hT.out x j hr)
      have HGM := hid (hg.rgm)
      have s1 := tok_spl (by' T) j 16 (by decide) (by decide)
      have s2 := tok_spl (by' T) j 17 (by decide) (by decide)
      have hta := tok_at (by' T) j (by rw [by_len]; exact hg.le)
      rw [by_len] at hta
      have HTA := hid hta
      have HO := hid (HON.out j wr hg)
      have HG' := hid hgf'
      clear hq2 hG hgf hta
      by_cases h1 : (tok (by' T) j).kind = 16
      · have t1 : ((bs (tok (by' T) j).text).toList == [43]) = true := by rw [bs_list, s1.1 h1]; rfl
        rw [if_pos h1] at hq3
        have hne : pProd (by' T) g' (tok (by' T) j).nx l ≠ .out := Res.out_bind (by rw [← hq3]; exact HRO.out)
        have HOP : Hid (bs (tok (by' T) j).text = bs (opS 4)) := by unfold Hid; rw [s1.1 h1]; rfl
        have HQ3 := hid hq3
        have HNX : Hid ((tok (by' T) j).at' < (tok (by' T) j).nx) := HTA.out.2.2.2.1 (by omega)
        have HFX := hid ((p_fx (by' T) g').2.2.2.1 (tok (by' T) j).nx l (by rw [by_len]; exact HTA.out.2.1))
        generalize bs (tok (by' T) j).text = tx at *
        generalize (tok (by' T) j).nx = nx at *
        clear s1 s2 h1 hq3 hg hr
        go_wp2_with fail
        refine HO.out.mono ?_
        rintro e w2 ⟨rfl, hf2, hm2⟩
        have HF2 := hid (hF.out.trans hf2)
        have HX2 := hid (HX.out.fr hf2 hlt)
        have HC2 := hid (HP.out g' (by have := HG'.out; omega) x nx w2 (hm2.of rfl) hne)
        have HSZ2 := hid HF2.out.size
        clear hf2 hm2 HO
        go_wp2_with fail
        refine HC2.out.mono ?_
        rintro e w3 ⟨p3, rfl, hf3, hm3, ht3⟩
        have hm3 : RgW w3 R T (pProd (by' T) g' nx l) l := hm3
        have ht3 : ∀ t j, pProd (by' T) g' nx l = .ok t j → XT w2.heap.size w3 t (.pointer p3) := ht3
        obtain ⟨rn, hrn⟩ : ∃ rn : Res Tr, rn = (pProd (by' T) g' nx l).bind fun y j => .ok (.node 4 [] 0 0 [x, y]) j := ⟨_, rfl⟩
        have hXR := mk_two (k := 4) (op := tx) (q := rn) (p1 := p) (p2 := p3) hlt HOP.out (by decide) (HF2.out.trans hf3) (by rw [hrn]; exact hm3.map _) (fun t jj h => by
          rw [hrn] at h
          obtain ⟨y, a3, h3, h⟩ := Res.bind_ok h
          injection h with h _
          exact ⟨x, y, h.symm, HX2.out.fr hf3 hlt, (ht3 _ _ h3).mono HSZ2.out⟩)
        have HXR := hid hXR
        have HQN : Hid (∃ g, g ≤ f ∧ q = rn.bind fun x j => pSumL (by' T) g x j l) := ⟨g', by have := HG'.out; omega, by
          rw [HQ3.out, hrn]
          cases pProd (by' T) g' nx l <;> rfl⟩
        have HPR : Hid (∀ y j, rn = .ok y j → nx ≤ j ∧ j ≤ T.size) := fun y j h => by
          rw [hrn] at h
          obtain ⟨y', a3, h3, h⟩ := Res.bind_ok h
          injection h with _ h
          subst h
          have k3 := HFX.out
          rw [h3] at k3
          have := k3.1
          have := k3.2
          rw [by_len] at this
          omega
        clear hf3 hm3 ht3 HC2 hXR hrn hne
        go_wp2_with fail
        go_roundw
        case rel =>
          obtain ⟨p4, e4, h1, h2, h3⟩ := HXR.out
          injection e4 with e4
          injection e4 with e4
          exact ⟨_, rn, rfl, h1, h2, by rw [e4]; exact h3, HQN.out⟩
        case measure =>
          obtain ⟨p4, e4, h1, h2, h3⟩ := HXR.out
          rw [HGM.out]
          exact rgm_lt h2 (fun y j h => by have := HPR.out y j h; have := HNX.out; omega) (by have := HTA.out; omega)
      · by_cases h2 : (tok (by' T) j).kind = 17
        · have t1 : ((bs (tok (by' T) j).text).toList == [43]) = false := by rw [bs_list, s2.1 h2]; rfl
          have t2 : ((bs (tok (by' T) j).text).toList == [45]) = true := by rw [bs_list, s2.1 h2]; rfl
          rw [if_neg h1, if_pos h2] at hq3
          have hne : pProd (by' T) g' (tok (by' T) j).nx l ≠ .out := Res.out_bind (by rw [← hq3]; exact HRO.out)
          have HOP : Hid (bs (tok (by' T) j).text = bs (opS 5)) := by unfold Hid; rw [s2.1 h2]; rfl
          have HQ3 := hid hq3
          have HNX : Hid ((tok (by' T) j).at' < (tok (by' T) j).nx) := HTA.out.2.2.2.1 (by omega)
          have HFX := hid ((p_fx (by' T) g').2.2.2.1 (tok (by' T) j).nx l (by rw [by_len]; exact HTA.out.2.1))
          generalize bs (tok (by' T) j).text = tx at *
          generalize (tok (by' T) j).nx = nx at *
          clear s1 s2 h1 h2 hq3 hg hr
          go_wp2_with fail
          refine HO.out.mono ?_
          rintro e w2 ⟨rfl, hf2, hm2⟩
          have HF2 := hid (hF.out.trans hf2)
          have HX2 := hid (HX.out.fr hf2 hlt)
          have HC2 := hid (HP.out g' (by have := HG'.out; omega) x nx w2 (hm2.of rfl) hne)
          have HSZ2 := hid HF2.out.size
          clear hf2 hm2 HO
          go_wp2_with fail
          refine HC2.out.mono ?_
          rintro e w3 ⟨p3, rfl, hf3, hm3, ht3⟩
          have hm3 : RgW w3 R T (pProd (by' T) g' nx l) l := hm3
          have ht3 : ∀ t j, pProd (by' T) g' nx l = .ok t j → XT w2.heap.size w3 t (.pointer p3) := ht3
          obtain ⟨rn, hrn⟩ : ∃ rn : Res Tr, rn = (pProd (by' T) g' nx l).bind fun y j => .ok (.node 5 [] 0 0 [x, y]) j := ⟨_, rfl⟩
          have hXR := mk_two (k := 5) (op := tx) (q := rn) (p1 := p) (p2 := p3) hlt HOP.out (by decide) (HF2.out.trans hf3) (by rw [hrn]; exact hm3.map _) (fun t jj h => by
            rw [hrn] at h
            obtain ⟨y, a3, h3, h⟩ := Res.bind_ok h
            injection h with h _
            exact ⟨x, y, h.symm, HX2.out.fr hf3 hlt, (ht3 _ _ h3).mono HSZ2.out⟩)
          have HXR := hid hXR
          have HQN : Hid (∃ g, g ≤ f ∧ q = rn.bind fun x j => pSumL (by' T) g x j l) := ⟨g', by have := HG'.out; omega, by
            rw [HQ3.out, hrn]
            cases pProd (by' T) g' nx l <;> rfl⟩
          have HPR : Hid (∀ y j, rn = .ok y j → nx ≤ j ∧ j ≤ T.size) := fun y j h => by
            rw [hrn] at h
            obtain ⟨y', a3, h3, h⟩ := Res.bind_ok h
            injection h with _ h
            subst h
            have k3 := HFX.out
            rw [h3] at k3
            have := k3.1
            have := k3.2
            rw [by_len] at this
            omega
          clear hf3 hm3 ht3 HC2 hXR hrn hne
          go_wp2_with fail
          go_roundw
          case rel =>
            obtain ⟨p4, e4, h1, h2, h3⟩ := HXR.out
            injection e4 with e4
            injection e4 with e4
            exact ⟨_, rn, rfl, h1, h2, by rw [e4]; exact h3, HQN.out⟩
          case measure =>
            obtain ⟨p4, e4, h1, h2, h3⟩ := HXR.out
            rw [HGM.out]
            exact rgm_lt h2 (fun y j h => by have := HPR.out y j h; have := HNX.out; omega) (by have := HTA.out; omega)
        · have t1 : ((bs (tok (by' T) j).text).toList == [43]) = false := by rw [bs_list]; simp; exact fun e => h1 (s1.2 e)
          have t2 : ((bs (tok (by' T) j).text).toList == [45]) = false := by rw [bs_list]; simp; exact fun e => h2 (s2.2 e)
          rw [if_neg h1, if_neg h2] at hq3
          have HE : Hid (XR R T q l w (.returned (.pointer p)) wr) := ⟨_, rfl, hF.out, by rw [hq3, ← hr]; exact hM.out, fun t jj h => hT.out t jj (by rw [hr, ← hq3]; exact h)⟩
          generalize bs (tok (by' T) j).text = tx at *
          clear s1 s2 h1 h2 hq3 hg hr
          go_wp2_with fail
          go_ret
          exact HE.out
    · obtain ⟨g, hgf, hq2⟩ := hG.out
      have hqb : q = rc := by
        rcases hr with h1 | ⟨x, j, h1, h0, rfl, rfl⟩
        · rw [hq2, h1]; rfl
        · rw [h1] at hq2 ⊢
          have hq2 : q = pSumL (by' T) g x j l := hq2
          cases g with
          | zero => rw [pSumL] at hq2; exact absurd hq2 HRO.out
          | succ g => rw [hq2, pSumL, if_neg (by omega), if_neg (by omega)]
      obtain ⟨he, at', tk, dp, hR⟩ := hfa
      have c4 := hR.c4
      have q4 : ((e : Int) == 0) = false := by simp; omega
      have HE : Hid (XR R T q l w (.returned (.pointer p)) wr) := ⟨_, rfl, hF.out, by rw [hqb]; exact hM.out, fun t jj h => hT.out t jj (by rw [← hqb]; exact h)⟩
      clear hr hR he hq2 hqb hgf
      go_wp2_with fail
      go_ret
      exact HE.out

end Go.Proofs.YtlgcmeachjjmgajGreatDoor

namespace Go.Proofs.YtlgcmeachjjmgajGreatDoor
open Go.RowKit

set_option maxRecDepth 100000 in
set_option maxHeartbeats 2000000 in
theorem rproduct_any (R : Nat) (T : ByteArray) (f : Nat) (hP : ∀ g, g ≤ f → PRT R T g) : PRD R T (f + 1) := fun α r l w hm hro => by
  have hlt := hm.lt
  obtain ⟨q, hq⟩ : ∃ q, q = r.bind fun _ j => pProd (by' T) (f + 1) j l := ⟨_, rfl⟩
  rw [← hq] at hro ⊢
  obtain ⟨q1, hq1⟩ : ∃ q1, q1 = r.bind fun _ j => pPart (by' T) f j l := ⟨_, rfl⟩
  have hqq : q = q1.bind fun x j => pProdL (by' T) f x j l := by
    rw [hq, hq1]
    cases r with
    | out => rfl
    | bad e a => rfl
    | ok x j =>
      show pProd (by' T) (f + 1) j l = (pPart (by' T) f j l).bind _
      rw [pProd]
  have n1 : q1 ≠ .out := Res.out_bind (by rw [← hqq]; exact hro)
  have HC := hid (hP f (Nat.le_refl _) α r l w hm (by rw [← hq1]; exact n1))
  rw [← hq1] at HC
  have HP := hid (fun (g : Nat) (hg : g ≤ f) (x : Tr) (a : Nat) (W : World) (hm : RgW W R T (.ok x a : Res Tr) l) (hn : pPart (by' T) g a l ≠ .out) => hP g hg Tr (.ok x a) l W hm hn)
  have HQQ := hid hqq
  have HRO := hid hro
  have HON := hid (fun (j : Nat) (W : World) (h : RgG W R T j l) => ron_any R j l T W h)
  clear hm hro hq hq1 hqq n1 hP
  go_enter Tryz.func121, Tryz.ntmps121
  go_wp2_with fail
  refine HC.out.mono ?_
  rintro e w1 ⟨p1, rfl, hf1, hm1, ht1⟩
  have HF1 := hid hf1
  have HM1 := hid hm1
  have HT1 := hid ht1
  clear hf1 hm1 ht1 HC
  go_wp2_with fail
  go_loopw [3] (fun v wr => ∃ (p : Option Addr) (rc : Res Tr), v = .pointer p ∧ Hid (Fr R w wr) ∧ Hid (RgW wr R T rc l) ∧ Hid (∀ t j, rc = .ok t j → XT w.heap.size wr t (.pointer p)) ∧ Hid (∃ g, g ≤ f ∧ q = rc.bind fun x j => pProdL (by' T) g x j l)) (fun _ wr => rgm R T wr)
  case atStart => exact ⟨_, _, rfl, HF1, HM1, HT1, f, Nat.le_refl _, HQQ.out⟩
  case round =>
    obtain ⟨p, rc, rfl, hF, hM, hT, hG⟩ := hrel
    clear HF1 HM1 HT1 HQQ
    rcases hM.out.cases with ⟨x, j, hr, hg⟩ | ⟨e, a, hfa, hr⟩
    · have c4 := hg.h.c4
      have c2 := hg.h.c2
      obtain ⟨g, hgf, hq2⟩ := hG.out
      rw [hr] at hq2
      have hq2 : q = pProdL (by' T) g x j l := hq2
      have hgx : ∃ g', g' + 1 ≤ f ∧ q = pProdL (by' T) (g' + 1) x j l := by
        cases g with
        | zero => rw [pProdL] at hq2; exact absurd hq2 HRO.out
        | succ g' => exact ⟨g', hgf, hq2⟩
      obtain ⟨g', hgf', hq3⟩ := hgx
      rw [pProdL] at hq3
      have HX := hid (hT.out x j hr)
      have HGM := hid (hg.rgm)
      have s1 := tok_spl (by' T) j 18 (by decide) (by decide)
      have s2 := tok_spl (by' T) j 19 (by decide) (by decide)
      have hta := tok_at (by' T) j (by rw [by_len]; exact hg.le)
      rw [by_len] at hta
      have HTA := hid hta
      have HO := hid (HON.out j wr hg)
      have HG' := hid hgf'
      clear hq2 hG hgf hta
      by_cases h1 : (tok (by' T) j).kind = 18
      · have t1 : ((bs (tok (by' T) j).text).toList == [42]) = true := by rw [bs_list, s1.1 h1]; rfl
        rw [if_pos h1] at hq3
        have hne : pPart (by' T) g' (tok (by' T) j).nx l ≠ .out := Res.out_bind (by rw [← hq3]; exact HRO.out)
        have HOP : Hid (bs (tok (by' T) j).text = bs (opS 6)) := by unfold Hid; rw [s1.1 h1]; rfl
        have HQ3 := hid hq3
        have HNX : Hid ((tok (by' T) j).at' < (tok (by' T) j).nx) := HTA.out.2.2.2.1 (by omega)
        have HFX := hid ((p_fx (by' T) g').2.2.2.2.2.1 (tok (by' T) j).nx l (by rw [by_len]; exact HTA.out.2.1))
        generalize bs (tok (by' T) j).text = tx at *
        generalize (tok (by' T) j).nx = nx at *
        clear s1 s2 h1 hq3 hg hr
        go_wp2_with fail
        refine HO.out.mono ?_
        rintro e w2 ⟨rfl, hf2, hm2⟩
        have HF2 := hid (hF.out.trans hf2)
        have HX2 := hid (HX.out.fr hf2 hlt)
        have HC2 := hid (HP.out g' (by have := HG'.out; omega) x nx w2 (hm2.of rfl) hne)
        have HSZ2 := hid HF2.out.size
        clear hf2 hm2 HO
        go_wp2_with fail
        refine HC2.out.mono ?_
        rintro e w3 ⟨p3, rfl, hf3, hm3, ht3⟩
        have hm3 : RgW w3 R T (pPart (by' T) g' nx l) l := hm3
        have ht3 : ∀ t j, pPart (by' T) g' nx l = .ok t j → XT w2.heap.size w3 t (.pointer p3) := ht3
        obtain ⟨rn, hrn⟩ : ∃ rn : Res Tr, rn = (pPart (by' T) g' nx l).bind fun y j => .ok (.node 6 [] 0 0 [x, y]) j := ⟨_, rfl⟩
        have hXR := mk_two (k := 6) (op := tx) (q := rn) (p1 := p) (p2 := p3) hlt HOP.out (by decide) (HF2.out.trans hf3) (by rw [hrn]; exact hm3.map _) (fun t jj h => by
          rw [hrn] at h
          obtain ⟨y, a3, h3, h⟩ := Res.bind_ok h
          injection h with h _
          exact ⟨x, y, h.symm, HX2.out.fr hf3 hlt, (ht3 _ _ h3).mono HSZ2.out⟩)
        have HXR := hid hXR
        have HQN : Hid (∃ g, g ≤ f ∧ q = rn.bind fun x j => pProdL (by' T) g x j l) := ⟨g', by have := HG'.out; omega, by
          rw [HQ3.out, hrn]
          cases pPart (by' T) g' nx l <;> rfl⟩
        have HPR : Hid (∀ y j, rn = .ok y j → nx ≤ j ∧ j ≤ T.size) := fun y j h => by
          rw [hrn] at h
          obtain ⟨y', a3, h3, h⟩ := Res.bind_ok h
          injection h with _ h
          subst h
          have k3 := HFX.out
          rw [h3] at k3
          have := k3.1
          have := k3.2
          rw [by_len] at this
          omega
        clear hf3 hm3 ht3 HC2 hXR hrn hne
        go_wp2_with fail
        go_roundw
        case rel =>
          obtain ⟨p4, e4, h1, h2, h3⟩ := HXR.out
          injection e4 with e4
          injection e4 with e4
          exact ⟨_, rn, rfl, h1, h2, by rw [e4]; exact h3, HQN.out⟩
        case measure =>
          obtain ⟨p4, e4, h1, h2, h3⟩ := HXR.out
          rw [HGM.out]
          exact rgm_lt h2 (fun y j h => by have := HPR.out y j h; have := HNX.out; omega) (by have := HTA.out; omega)
      · by_cases h2 : (tok (by' T) j).kind = 19
        · have t1 : ((bs (tok (by' T) j).text).toList == [42]) = false := by rw [bs_list, s2.1 h2]; rfl
          have t2 : ((bs (tok (by' T) j).text).toList == [47]) = true := by rw [bs_list, s2.1 h2]; rfl
          rw [if_neg h1, if_pos h2] at hq3
          have hne : pPart (by' T) g' (tok (by' T) j).nx l ≠ .out := Res.out_bind (by rw [← hq3]; exact HRO.out)
          have HOP : Hid (bs (tok (by' T) j).text = bs (opS 7)) := by unfold Hid; rw [s2.1 h2]; rfl
          have HQ3 := hid hq3
          have HNX : Hid ((tok (by' T) j).at' < (tok (by' T) j).nx) := HTA.out.2.2.2.1 (by omega)
          have HFX := hid ((p_fx (by' T) g').2.2.2.2.2.1 (tok (by' T) j).nx l (by rw [by_len]; exact HTA.out.2.1))
          generalize bs (tok (by' T) j).text = tx at *
          generalize (tok (by' T) j).nx = nx at *
          clear s1 s2 h1 h2 hq3 hg hr
          go_wp2_with fail
          refine HO.out.mono ?_
          rintro e w2 ⟨rfl, hf2, hm2⟩
          have HF2 := hid (hF.out.trans hf2)
          have HX2 := hid (HX.out.fr hf2 hlt)
          have HC2 := hid (HP.out g' (by have := HG'.out; omega) x nx w2 (hm2.of rfl) hne)
          have HSZ2 := hid HF2.out.size
          clear hf2 hm2 HO
          go_wp2_with fail
          refine HC2.out.mono ?_
          rintro e w3 ⟨p3, rfl, hf3, hm3, ht3⟩
          have hm3 : RgW w3 R T (pPart (by' T) g' nx l) l := hm3
          have ht3 : ∀ t j, pPart (by' T) g' nx l = .ok t j → XT w2.heap.size w3 t (.pointer p3) := ht3
          obtain ⟨rn, hrn⟩ : ∃ rn : Res Tr, rn = (pPart (by' T) g' nx l).bind fun y j => .ok (.node 7 [] 0 0 [x, y]) j := ⟨_, rfl⟩
          have hXR := mk_two (k := 7) (op := tx) (q := rn) (p1 := p) (p2 := p3) hlt HOP.out (by decide) (HF2.out.trans hf3) (by rw [hrn]; exact hm3.map _) (fun t jj h => by
            rw [hrn] at h
            obtain ⟨y, a3, h3, h⟩ := Res.bind_ok h
            injection h with h _
            exact ⟨x, y, h.symm, HX2.out.fr hf3 hlt, (ht3 _ _ h3).mono HSZ2.out⟩)
          have HXR := hid hXR
          have HQN : Hid (∃ g, g ≤ f ∧ q = rn.bind fun x j => pProdL (by' T) g x j l) := ⟨g', by have := HG'.out; omega, by
            rw [HQ3.out, hrn]
            cases pPart (by' T) g' nx l <;> rfl⟩
          have HPR : Hid (∀ y j, rn = .ok y j → nx ≤ j ∧ j ≤ T.size) := fun y j h => by
            rw [hrn] at h
            obtain ⟨y', a3, h3, h⟩ := Res.bind_ok h
            injection h with _ h
            subst h
            have k3 := HFX.out
            rw [h3] at k3
            have := k3.1
            have := k3.2
            rw [by_len] at this
            omega
          clear hf3 hm3 ht3 HC2 hXR hrn hne
          go_wp2_with fail
          go_roundw
          case rel =>
            obtain ⟨p4, e4, h1, h2, h3⟩ := HXR.out
            injection e4 with e4
            injection e4 with e4
            exact ⟨_, rn, rfl, h1, h2, by rw [e4]; exact h3, HQN.out⟩
          case measure =>
            obtain ⟨p4, e4, h1, h2, h3⟩ := HXR.out
            rw [HGM.out]
            exact rgm_lt h2 (fun y j h => by have := HPR.out y j h; have := HNX.out; omega) (by have := HTA.out; omega)
        · have t1 : ((bs (tok (by' T) j).text).toList == [42]) = false := by rw [bs_list]; simp; exact fun e => h1 (s1.2 e)
          have t2 : ((bs (tok (by' T) j).text).toList == [47]) = false := by rw [bs_list]; simp; exact fun e => h2 (s2.2 e)
          rw [if_neg h1, if_neg h2] at hq3
          have HE : Hid (XR R T q l w (.returned (.pointer p)) wr) := ⟨_, rfl, hF.out, by rw [hq3, ← hr]; exact hM.out, fun t jj h => hT.out t jj (by rw [hr, ← hq3]; exact h)⟩
          generalize bs (tok (by' T) j).text = tx at *
          clear s1 s2 h1 h2 hq3 hg hr
          go_wp2_with fail
          go_ret
          exact HE.out
    · obtain ⟨g, hgf, hq2⟩ := hG.out
      have hqb : q = rc := by
        rcases hr with h1 | ⟨x, j, h1, h0, rfl, rfl⟩
        · rw [hq2, h1]; rfl
        · rw [h1] at hq2 ⊢
          have hq2 : q = pProdL (by' T) g x j l := hq2
          cases g with
          | zero => rw [pProdL] at hq2; exact absurd hq2 HRO.out
          | succ g => rw [hq2, pProdL, if_neg (by omega), if_neg (by omega)]
      obtain ⟨he, at', tk, dp, hR⟩ := hfa
      have c4 := hR.c4
      have q4 : ((e : Int) == 0) = false := by simp; omega
      have HE : Hid (XR R T q l w (.returned (.pointer p)) wr) := ⟨_, rfl, hF.out, by rw [hqb]; exact hM.out, fun t jj h => hT.out t jj (by rw [← hqb]; exact h)⟩
      clear hr hR he hq2 hqb hgf
      go_wp2_with fail
      go_ret
      exact HE.out

end Go.Proofs.YtlgcmeachjjmgajGreatDoor
