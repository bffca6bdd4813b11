/- Package lower: Code. Package lower: With. -/
import Derived.Test.YtmmgkdcojkmlcaaGreatDoorLFAZ
import Derived.Test.YtmmgkdcojkmlcaaGreatDoorLFBI
import Derived.Test.YtmmgkdcojkmlcaaGreatDoorLFBH
namespace Go.Proofs.YtmmgkdcojkmlcaaGreatDoor
open Go.RowKit

theorem fldp_any (p b : Nat) (w : World) (hp : w.cell? ⟨b, 0, none⟩ = some (.int .i64 (p : Int))) :
    Calls Tryz.prog 29 #[.pointer (some ⟨b, 0, none⟩)] w fun e w' => e = .returned (.int .i64 (p : Int)) ∧ w' = w := by
  go_enter Tryz.func29, Tryz.ntmps29
  go_wp2_with fail
  go_ret
  exact ⟨rfl, rfl⟩
theorem PgAt.beloL {lo : Nat} {w w' : World} {p : Nat} {fs : List FnT} (h : PgAt lo w p fs) (hb : Below w.heap.size w w') : PgAt lo w' p fs := by
  obtain ⟨pa, pc, B, h1, h2, h3, h4, h5, h6⟩ := h
  exact ⟨pa, pc, B, (hb.block _ (Array.getElem?_eq_some_iff.1 h1).1).trans h1, h2, h3, h4, h5.below hb, h6.below hb⟩
/-- where Code stands -/
structure CdI (p N fd wq fb P lo CB : Nat) (fs : List FnT) (M : List UInt8 → Option (Nat × Nat)) (w W : World) (s : LwS) : Prop where
  lw : LoW p N fd wq fb W s
  mf : FrmA W fb M
  sh : ShA lo W P fs
  lk : LoK true (some fb) N w W
  cb : W.heap[CB]? = some (.cells #[.int .i64 0, .slice none 0 0] 24 (0, 0))
theorem FrmA.noX {w : World} {fb : Nat} {M : List UInt8 → Option (Nat × Nat)} (h : FrmA w fb M) : ∀ x, (some fb : Option Nat) = some x → ∀ cs t f, w.heap[x]? ≠ some (.cells cs t f) := fun x hx cs t f e => by
  injection hx with hx
  subst hx
  obtain ⟨es, cl, hm, _⟩ := h
  rw [hm] at e
  cases e
theorem ShA.lok {lo N P : Nat} {b : Bool} {X : Option Nat} {w w' : World} {fs : List FnT} (h : ShA lo w P fs) (e : LoK b X N w w') (hX : ∀ x, X = some x → ∀ cs t f, w.heap[x]? ≠ some (.cells cs t f)) : ShA lo w' P fs := by
  obtain ⟨⟨F, h1, h2⟩, hP⟩ := h
  refine ⟨⟨F, ?_, fun k g hk => (h2 k g hk).lok e hX⟩, hP⟩
  obtain ⟨cs, g1, g2⟩ := h1
  exact ⟨cs, (e.keep P _ g1 (by cases b <;> rfl) (fun er => hX P er _ _ _ g1)).trans g1, g2⟩
theorem CdI.step {p N fd wq fb P lo CB : Nat} {fs : List FnT} {M M' : List UInt8 → Option (Nat × Nat)} {w W W' : World} {s s' : LwS} (h : CdI p N fd wq fb P lo CB fs M w W s) (h1 : LoW p N fd wq fb W' s') (h2 : FrmA W' fb M') (h3 : LoK true (some fb) N W W') : CdI p N fd wq fb P lo CB fs M' w W' s' :=
  ⟨h1, h2, h.sh.lok h3 h.mf.noX, h.lk.trans h3, (h3.keep CB _ h.cb rfl (fun er => h.mf.noX CB er _ _ _ h.cb)).trans h.cb⟩
theorem CdI.below {p N fd wq fb P lo CB : Nat} {fs : List FnT} {M : List UInt8 → Option (Nat × Nat)} {w W W' : World} {s : LwS} (h : CdI p N fd wq fb P lo CB fs M w W s) (e : Below W.heap.size W W') : CdI p N fd wq fb P lo CB fs M w W' s :=
  h.step (h.lw.below e) (MapT.below h.mf e) (LoK.below e (Nat.le_of_lt (Nat.lt_of_le_of_lt h.lw.hN h.lw.lt)))
theorem ShA.rowAt {lo P : Nat} {W : World} {fs : List FnT} (h : ShA lo W P fs) {k : Nat} {g : FnT} (hg : fs[k]? = some g) : ∃ vs, ShF lo W g vs ∧ vs.length = 6 ∧ ∀ j, j < 6 → ∀ v, vs[j]? = some v → W.cell? ⟨P, k * 6 + j, none⟩ = some v := by
  obtain ⟨⟨F, ⟨cs, h1, h2, h3⟩, hF⟩, _⟩ := h
  have hk := (List.getElem?_eq_some_iff.1 hg).1
  obtain ⟨sK, sk, ss, sn, sa, sl, sc, e⟩ := (hF k g hg).form
  refine ⟨F k, hF k g hg, by rw [e]; rfl, fun j hj v hv => ?_⟩
  simp [World.cell?, h1, h3 k hk j hj v hv]
/-- how Code ends -/
def CdR (p n : Nat) (fs : List FnT) (w : World) (e : Ending) (w' : World) : Prop := Below w.heap.size w w' ∧
  if 4096 < (cdL p n fs).L.length ∨ p < (cdL p n fs).L.length then e = .returned (.tuple #[.agg #[.int .i64 0, .slice none 0 0], .iface 57 (.int .i64 9)])
  else ∃ a c, e = .returned (.tuple #[.agg #[.int .i64 (n + 1 : Int), .slice a (cdL p n fs).L.length c], .nilIface]) ∧ w'.ownsRow w.heap.size 35 4 (.slice a (cdL p n fs).L.length c) (cdL p n fs).L.length (insV (cdL p n fs).L)

set_option maxRecDepth 100000 in
set_option maxHeartbeats 8000000 in
theorem code_any (p fd lo q i0 : Nat) (hp3 : 3 ≤ p) (hpm : p ≤ 2147483647) (fs : List FnT) (g0 : FnT) (w : World) (hP : PgAt lo w q fs) (hi0 : nmM fs fs.length mainW = some (i0 : Int)) (hg0 : fs[i0]? = some g0) (hW : ∀ g, g ∈ fs → FW g) (hpw : pwgt fs ≤ 4000) (hl4 : fs.length ≤ 4000) (hm3 : g0.more.length ≤ 4000)
    (hfd : ∃ cs f, w.heap[fd]? = some (.cells cs 61 f) ∧ cs[0]? = some (.int .i64 (p : Int))) :
    Calls Tryz.prog 12 #[.pointer (some ⟨fd, 0, none⟩), .pointer (some ⟨q, 0, none⟩)] w (CdR p g0.more.length fs w) := by
  have hmm := @run_makeMap Tryz.prog
  have hmx : Tryz.prog.follows .mixedOrders = true := by kernel_rfl
  have hOK := cd_ok p g0.more.length fs hW hpw hm3
  obtain ⟨n, hn⟩ : ∃ n, n = g0.more.length := ⟨_, rfl⟩
  rw [← hn] at hOK ⊢
  have hn3 : n ≤ 4000 := by omega
  obtain ⟨CB, hCB⟩ : ∃ P, P = w.heap.size := ⟨_, rfl⟩
  obtain ⟨fb, hfb⟩ : ∃ M, M = w.heap.size + 1 := ⟨_, rfl⟩
  obtain ⟨wq, hwq⟩ : ∃ b, b = w.heap.size + 1 + 1 := ⟨_, rfl⟩
  obtain ⟨N, hNN⟩ : ∃ N, N = w.heap.size := ⟨_, rfl⟩
  obtain ⟨W1, hW1⟩ : ∃ W, W = w.alloc (.cells #[.int .i64 0, .slice none 0 0] 24) := ⟨_, rfl⟩
  obtain ⟨W2, hW2⟩ : ∃ W, W = W1.alloc (.map #[] 0) := ⟨_, rfl⟩
  obtain ⟨W3, hW3⟩ : ∃ W, W = W2.alloc (.cells #[.pointer (some ⟨fd, 0, none⟩), .slice none 0 0, .slice none 0 0, .map (some fb)] 86) := ⟨_, rfl⟩
  have s1 : W1.heap.size = w.heap.size + 1 := by rw [hW1]; simp
  have s2 : W2.heap.size = w.heap.size + 1 + 1 := by rw [hW2]; simp [s1]
  have b1 : Below w.heap.size w W1 := by rw [hW1]; exact (Below.refl _ _).alloc (Nat.le_refl _) _
  have b2 : Below W1.heap.size W1 W2 := by rw [hW2]; exact (Below.refl _ _).alloc (Nat.le_refl _) _
  have b3 : Below W2.heap.size W2 W3 := by rw [hW3]; exact (Below.refl _ _).alloc (Nat.le_refl _) _
  have b12 := b1.trans (b2.mono b1.size)
  have b13 := b12.trans (b3.mono b12.size)
  have HLW : Hid (LoW p N fd wq fb W3 cd0) := by
    obtain ⟨cs, f, h1, h2⟩ := hfd
    have c1 : W3.heap[wq]? = some (.cells #[.pointer (some ⟨fd, 0, none⟩), .slice none 0 0, .slice none 0 0, .map (some fb)] 86 (0, 0)) := by rw [hW3, hwq, ← s2]; exact heap_alloc_new W2 _
    exact ⟨⟨cs, f, (b13.block fd (Array.getElem?_eq_some_iff.1 h1).1).trans h1, h2⟩, ⟨_, _, c1, ⟨rfl, Or.inl ⟨rfl, rfl⟩⟩, ⟨rfl, Or.inl ⟨rfl, rfl⟩⟩⟩, by omega⟩
  have HMF : Hid (FrmA W3 fb (fun _ => none)) := by
    have m1 : FrmA W2 fb (fun _ => none) := by rw [hW2, hfb, ← s1]; exact MapT.new W1
    exact MapT.below m1 b3
  have HCB : Hid (W3.heap[CB]? = some (.cells #[.int .i64 0, .slice none 0 0] 24 (0, 0))) := by
    have p1 : W1.heap[CB]? = some (.cells #[.int .i64 0, .slice none 0 0] 24 (0, 0)) := by rw [hW1, hCB]; exact heap_alloc_new w _
    exact (b3.block CB (by omega)).trans ((b2.block CB (by omega)).trans p1)
  have HLK : Hid (LoK true (some fb) N w W3) := LoK.below b13 (by omega)
  have HW3 := hid (hW3.trans (by rw [hW2, hW1, hfb] : _ = ((w.alloc (.cells #[.int .i64 0, .slice none 0 0] 24)).alloc (.map #[] 0)).alloc (.cells #[.pointer (some ⟨fd, 0, none⟩), .slice none 0 0, .slice none 0 0, .map (some (w.heap.size + 1))] 86)))
  have HC := hid hCB
  have HF := hid hfb
  have HQ := hid hwq
  have HNN := hid hNN
  have HP : Hid (3 ≤ p ∧ p ≤ 2147483647) := ⟨hp3, hpm⟩
  have HWW := hid hW
  have HOK := hid hOK
  have HPG := hid hP
  have HPW : Hid (pwgt fs ≤ 4000 ∧ fs.length ≤ 4000 ∧ n ≤ 4000) := ⟨hpw, hl4, hn3⟩
  have HAR : Hid (∀ W, Below w.heap.size w W → Calls Tryz.prog 25 #[.pointer (some ⟨q, 0, none⟩)] W fun e w' => e = .returned (.int .i64 (n : Int)) ∧ Below W.heap.size W w') := fun W hb => by
    rw [hn]
    exact args_any lo q i0 fs g0 W (hP.beloL hb) hi0 hg0
  have HA3 := hid (HAR.out W3 b13)
  have HB3 := hid b13
  have HNM := hid hn
  clear hOK hn hCB hfb hwq hNN hW1 hW2 hW3 s1 s2 b1 b2 b3 b12 b13 hP hi0 hg0 hW hpw hl4 hm3 hfd hp3 hpm
  go_enter Tryz.func12, Tryz.ntmps12
  go_wp2_with (rw [← HW3.out, ← HQ.out, ← HF.out, ← HC.out])
  refine HA3.out.mono ?_
  rintro e w4 ⟨rfl, hb4⟩
  have HLW4 := hid (HLW.out.below hb4)
  have HMF4 := hid (MapT.below HMF.out hb4)
  have hNw : N ≤ W3.heap.size := by have := HNN.out; have := HB3.out.size; omega
  have HLK4 := hid (HLK.out.trans (LoK.below hb4 hNw))
  have HCB4 := hid ((hb4.block CB (Array.getElem?_eq_some_iff.1 HCB.out).1).trans HCB.out)
  have HBG := hid (begin_any p N fd wq fb n HP.out.1 HP.out.2 cd0 w4 HLW4.out (by have := HPW.out.2.2; omega) (by simp [cd0]) (by simp [cd0]))
  clear hb4 hNw HLW HMF HLK HCB HA3
  go_wp2_with fail
  refine HBG.out.mono ?_
  rintro e w5 ⟨⟨v, rfl⟩, hl5, hk5⟩
  have HLW5 := hid hl5
  have HMF5 : Hid (FrmA w5 fb (fun _ => none)) := by
    obtain ⟨es, cl, hm, _⟩ := HMF4.out
    exact FrmA.keep HMF4.out (hk5.keep fb _ hm rfl (by simp))
  have HLK5 : Hid (LoK true (some fb) N w w5) := HLK4.out.trans hk5.wide
  have HCB5 := hid ((hk5.keep CB _ HCB4.out rfl (by simp)).trans HCB4.out)
  have HB5 : Hid (Below w.heap.size w w5) := by have := HLK5.out.bel; rw [HNN.out] at this; exact this
  have HSW := hid (show_any lo q fs w5 (HPG.out.beloL HB5.out) HPW.out.2.1 HWW.out)
  clear hl5 hk5 HLW4 HMF4 HLK4 HCB4 HBG
  go_wp2_with fail
  refine HSW.out.mono ?_
  rintro e w6 ⟨P, rfl, hsh, hb6⟩
  obtain ⟨s1, hs1⟩ : ∃ s1, s1 = begL p n cd0 := ⟨_, rfl⟩
  obtain ⟨l1, hl1⟩ : ∃ l, l = w5.heap.size := ⟨_, rfl⟩
  obtain ⟨m, hm⟩ : ∃ m, m = fs.length := ⟨_, rfl⟩
  rw [← hm]
  have HM := hid hm
  have HI0 : Hid (CdI p N fd wq fb P l1 CB fs (cdF p fs s1 0) w w6 (cdN p fs s1 0)) := by
    have hNw : N ≤ w5.heap.size := by have := HNN.out; have := HB5.out.size; omega
    exact ⟨by rw [cdN, hs1]; exact HLW5.out.below hb6, MapT.below HMF5.out hb6, by rw [hl1]; exact hsh, HLK5.out.trans (LoK.below hb6 hNw), (hb6.block CB (Array.getElem?_eq_some_iff.1 HCB5.out).1).trans HCB5.out⟩
  have HCN : Hid (∀ i, i ≤ m → s1.L.length ≤ (cdN p fs s1 i).L.length ∧ (cdN p fs s1 i).L.length ≤ s1.L.length + 5 * pwgt (fs.take i) ∧ (cdN p fs s1 i).cl.length ≤ s1.cl.length + pwgt (fs.take i) ∧ pwgt (fs.take i) ≤ 4000 ∧ (∀ n, StK n s1 (cdN p fs s1 i)) ∧ FrOk (cdF p fs s1 i)) := by
    obtain ⟨a1, a2, _, _⟩ := begL_is p n
    rw [← hs1] at a1 a2
    rw [hm]
    have := HPW.out
    exact cdN_is p fs s1 HWW.out (by omega) (by omega) this.1
  have HS1 : Hid (s1.L.length = 2 * n + 3 ∧ s1.cl.length = 1) := by
    obtain ⟨a1, a2, _, _⟩ := begL_is p n
    rw [← hs1] at a1 a2
    exact ⟨a1, a2⟩
  have HSE := hid hs1
  have HNF : Hid (N ≤ fb) := by have := HF.out; have := HNN.out; unfold Hid; omega
  have hm4 : m ≤ 4000 := by have := HPW.out.2.1; omega
  clear hsh hb6 hl1 hm hs1 HLW5 HMF5 HLK5 HCB5 HSW
  go_wp2_with fail
  go_loopw [20] (fun iv wr => ∃ (i : Nat), i ≤ m ∧ iv = .int .i64 (i : Int) ∧ Hid (CdI p N fd wq fb P l1 CB fs (cdF p fs s1 i) w wr (cdN p fs s1 i))) (fun iv _ => m - (intOf iv).toNat)
  case atStart => exact ⟨0, Nat.zero_le _, rfl, HI0⟩
  case round =>
    obtain ⟨i, him, rfl, HI⟩ := hrel
    clear HI0
    by_cases hlt : i < m
    · have hlt2 : (i : Int) < (m : Int) := by omega
      have hks : IntKind.i64.wrap ((i : Int) + 1) = (i : Int) + 1 := by rw [IntKind.wrap_i64]; omega
      obtain ⟨g, hg⟩ : ∃ g, fs[i]? = some g := ⟨_, List.getElem?_eq_getElem (by rw [← HM.out]; exact hlt)⟩
      obtain ⟨vs, hvs, _, hcs⟩ := HI.out.sh.rowAt hg
      obtain ⟨sK, sk, ss, sn, sa, sl, sc, rfl⟩ := hvs.form
      have c0 := hcs 0 (by omega) _ rfl
      have c1 := hcs 1 (by omega) _ rfl
      have c2 := hcs 2 (by omega) _ rfl
      have c3 := hcs 3 (by omega) _ rfl
      have c4 := hcs 4 (by omega) _ rfl
      have c5 := hcs 5 (by omega) _ rfl
      rw [Nat.add_zero] at c0
      obtain ⟨W1, hW1⟩ : ∃ W, W = wr.alloc (.cells #[.string (bs g.name), .slice (some ⟨sK, 0, none⟩) g.more.length g.more.length, .int .i64 sk, .string ss, .int .i64 sn, .slice sa sl sc] 95) := ⟨_, rfl⟩
      have hb1 : Below wr.heap.size wr W1 := by rw [hW1]; exact (Below.refl _ _).alloc (Nat.le_refl _) _
      have HI1 := hid (HI.out.below hb1)
      have hgm := List.mem_of_getElem? hg
      obtain ⟨n0, n1, n2, n3, _, _⟩ := HCN.out i him
      have hts : tsz g.body ≤ 4000 := by have := pwgt_mem hgm; unfold fsz at this; have := HPW.out.1; omega
      have HC : Hid (Calls Tryz.prog 27 #[.pointer (some ⟨wq, 0, none⟩), .agg #[.string (bs g.name), .slice (some ⟨sK, 0, none⟩) g.more.length g.more.length, .int .i64 sk, .string ss, .int .i64 sn, .slice sa sl sc]] W1 fun e w' => (∃ v, e = .returned v) ∧ LoW p N fd wq fb w' (cdN p fs s1 (i + 1)) ∧ FrmA w' fb (cdF p fs s1 (i + 1)) ∧ LoK true (some fb) N W1 w') := by
        have h := function_writ p N fd wq fb HP.out.1 HP.out.2 g (cdN p fs s1 i) W1 l1 _ (cdF p fs s1 i) HI1.out.lw HI1.out.mf HNF.out (hvs.below hb1) (HWW.out g hgm) (by have := HS1.out.1; have := HPW.out.2.2; omega) (by have := HS1.out.2; omega)
        have en : cdN p fs s1 (i + 1) = fnP p g (cdN p fs s1 i) := by rw [cdN, hg]
        have ef : cdF p fs s1 (i + 1) = updT (cdF p fs s1 i) g.name ((cdN p fs s1 i).L.length, (fnP p g (cdN p fs s1 i)).cells) := by rw [cdF, hg]
        rw [en, ef]
        exact h
      have HW1 := hid hW1
      obtain ⟨gl, hgl⟩ : ∃ gl, gl = g.more.length := ⟨_, rfl⟩
      obtain ⟨gn, hgn⟩ : ∃ gn, gn = bs g.name := ⟨_, rfl⟩
      rw [← hgl, ← hgn] at HC HW1
      rw [← hgn] at c0
      rw [← hgl] at c1
      clear hg hvs hcs hW1 hb1 hgm n0 n1 n2 n3 hts hgl hgn
      go_wp2_with fail
      rw [← HW1.out]
      refine HC.out.mono ?_
      rintro e w2 ⟨⟨v, rfl⟩, hl2, hf2, hk2⟩
      have HI2 := hid (HI1.out.step hl2 hf2 hk2)
      clear hl2 hf2 hk2 HC c0 c1 c2 c3 c4 c5
      go_wp2_with fail
      go_roundw
      case rel => exact ⟨i + 1, by omega, by go_num, HI2⟩
      case measure => simp [intOf]; omega
    · obtain rfl : i = m := by omega
      have hlt2 : ¬ (i : Int) < (i : Int) := by omega
      have HEI : Hid (cdN p fs s1 i = cdS p n fs ∧ cdF p fs s1 i = cdM p n fs) := by unfold Hid cdS cdM; rw [← HSE.out, ← HM.out]; exact ⟨rfl, rfl⟩
      rw [HEI.out.1, HEI.out.2] at HI
      have hsl : (cdS p n fs).L.length ≤ 1000000 ∧ (cdS p n fs).cl.length ≤ 1000000 := by
        have h1 := HOK.out.sl
        have h2 := HOK.out.l1
        have h3 := HOK.out.ck
        have := HPW.out
        omega
      have HFC := hid (fillCalls_any p N fd wq fb HP.out.1 HP.out.2 (cdM p n fs) HOK.out.fo (cdS p n fs) HOK.out.co wr HI.out.lw HI.out.mf hsl.1 hsl.2)
      obtain ⟨wo, hwo⟩ : ∃ wo, wo = wr := ⟨_, rfl⟩
      rw [← hwo] at HI HFC ⊢
      clear hwo hsl
      go_wp2_with fail
      refine HFC.out.mono ?_
      rintro e w2 ⟨⟨v, rfl⟩, hl2, hk2⟩
      have hl2' : LoW p N fd wq fb w2 (cdL p n fs) := hl2
      have HM2 : Hid (FrmA w2 fb (cdM p n fs)) := by
        obtain ⟨es, cl, hm, _⟩ := HI.out.mf
        exact FrmA.keep HI.out.mf (hk2.keep fb _ hm rfl (by simp))
      have HI2 := hid (HI.out.step hl2' HM2.out hk2.wide)
      obtain ⟨ll, hll⟩ : ∃ ll, ll = (cdL p n fs).L.length := ⟨_, rfl⟩
      obtain ⟨a, c, hac⟩ := hl2'.slice
      rw [← hll] at hac
      have HLL := hid hll
      have HB2 : Hid (Below w.heap.size w w2) := by have := HI2.out.lk.bel; rw [HNN.out] at this; exact this
      have HCB2 := hid HI2.out.cb
      have HP0 := hid hl2'.p0
      have HAC := hid hac
      have HLN : Hid (ll ≤ 1000000) := by have h2 := HOK.out.l1; have := HPW.out; unfold Hid; omega
      have hllm : ll ≤ 1000000 := HLN.out
      have y0 : w2.cell? ⟨CB, 0, none⟩ = some (.int .i64 0) := by simp [World.cell?, HCB2.out]
      have y1 : w2.cell? ⟨CB, 1, none⟩ = some (.slice none 0 0) := by simp [World.cell?, HCB2.out]
      have z0 : w2.frozen? ⟨CB, 0, none⟩ = false := by simp [World.frozen?, HCB2.out]
      have z1 : w2.frozen? ⟨CB, 1, none⟩ = false := by simp [World.frozen?, HCB2.out]
      have HOW : Hid (w2.ownsRow N 35 4 (.slice a ll c) ll (insV (cdL p n fs).L)) := by
        obtain ⟨lv, cv, h3, h4, h5⟩ := hl2'.str
        have e : w2.cell? ⟨wq, 1, none⟩ = some lv := by simp [World.cell?, h3]
        rw [hac] at e
        injection e with e
        rw [← e, ← hll] at h4
        exact h4
      have HDF := hid (fun b : Nat => fldp_any p fd w2.drew (by have := HP0.out; exact this))
      clear hl2 hl2' hk2 hll hac HFC
      by_cases hbig : 4096 < ll
      · have hb2 : (4096 : Int) < (ll : Int) := by omega
        go_wp2_with fail
        refine wp_region_held_drew (S := fun W => W.cell? ⟨wq, 1, none⟩ = some (.slice a ll c) ∧ W.cell? ⟨fd, 0, none⟩ = some (.int .i64 (p : Int))) hmx (⟨HAC.out, HP0.out⟩) (fun hHeld => ?_)
        refine tkA 0 (.pointer (some ⟨wq, 0, none⟩)) ?_
        simp only [putX]
        refine tkA 1 (.pointer (some ⟨wq, 0, none⟩)) ?_
        simp only [putX]
        refine tkA 2 (.pointer (some ⟨wq, 1, none⟩)) ?_
        simp only [putX]
        refine tkA 3 (.slice a ll c) ?_
        simp only [putX]
        refine tkA 4 (.int .i64 (ll : Int)) ?_
        simp only [putX]
        refine tkA 5 (.bool true) ?_
        simp only [putX]
        refine tkA 6 (.bool true) ?_
        simp only [putX]
        refine psA 7 ?_
        simp only [putX]
        refine psA 8 ?_
        simp only [putX]
        refine psA 9 ?_
        simp only [putX]
        refine psA 10 ?_
        simp only [putX]
        refine psA 11 ?_
        simp only [putX]
        refine psA 12 ?_
        simp only [putX]
        refine psA 13 ?_
        simp only [putX]
        refine psA 14 ?_
        simp only [putX]
        refine tkA 15 (.bool true) ?_
        simp only [putX]
        refine wpAnyH_done (by kernel_rfl) ?_ _
        go_wp2_with fail
        refine bodyPost_ret (results_ctM rfl _ _ CB 24 #[.int .i64 0, .slice none 0 0] (0, 0) _ rfl (put2_heap HCB2.out _ _) Tryz.underlying24 rfl (by kernel_rfl)) rfl ?_
        unfold CdR
        refine ⟨below_drewN (bl_set (bl_set HB2.out (by rw [HC.out]; exact Nat.le_refl _) _) (by rw [HC.out]; exact Nat.le_refl _) _) 1, ?_⟩
        rw [if_pos (Or.inl (by rw [← HLL.out]; exact hbig))]
        rfl
      · have hb2 : ¬ (4096 : Int) < (ll : Int) := by omega
        by_cases hpl : p < ll
        · have hb3 : (p : Int) < (ll : Int) := by omega
          go_wp2_with fail
          refine wp_region_held_drew (S := fun W => W.cell? ⟨wq, 1, none⟩ = some (.slice a ll c) ∧ W.cell? ⟨fd, 0, none⟩ = some (.int .i64 (p : Int))) hmx (⟨HAC.out, HP0.out⟩) (fun hHeld => ?_)
          refine tkA 0 (.pointer (some ⟨wq, 0, none⟩)) ?_
          simp only [putX]
          refine tkA 1 (.pointer (some ⟨wq, 0, none⟩)) ?_
          simp only [putX]
          refine tkA 2 (.pointer (some ⟨wq, 1, none⟩)) ?_
          simp only [putX]
          refine tkA 3 (.slice a ll c) ?_
          simp only [putX]
          refine tkA 4 (.int .i64 (ll : Int)) ?_
          simp only [putX]
          refine tkA 5 (.bool false) ?_
          simp only [putX]
          refine tkA 6 (.bool false) ?_
          simp only [putX]
          refine tkA 7 (.pointer (some ⟨wq, 0, none⟩)) ?_
          simp only [putX]
          refine tkA 8 (.pointer (some ⟨wq, 0, none⟩)) ?_
          simp only [putX]
          refine tkA 9 (.pointer (some ⟨wq, 1, none⟩)) ?_
          simp only [putX]
          refine tkA 10 (.slice a ll c) ?_
          simp only [putX]
          refine tkA 11 (.int .i64 (ll : Int)) ?_
          simp only [putX]
          refine tkA 12 (.pointer (some ⟨fd, 0, none⟩)) ?_
          simp only [putX]
          refine rdA 13 fun K' hK' => ?_
          go_simp
          refine (fldp_any p fd _ hHeld.2).mono ?_
          rintro e w3 ⟨rfl, rfl⟩
          refine hK'.out _ _ (hHeld) (fun hHeld => ?_)
          clear hK' K'
          refine tkA 14 (.bool true) ?_
          simp only [putX]
          refine tkA 15 (.bool true) ?_
          simp only [putX]
          refine wpAnyH_done (by kernel_rfl) ?_ _
          go_wp2_with fail
          refine bodyPost_ret (results_ctM rfl _ _ CB 24 #[.int .i64 0, .slice none 0 0] (0, 0) _ rfl (put2_heap HCB2.out _ _) Tryz.underlying24 rfl (by kernel_rfl)) rfl ?_
          unfold CdR
          refine ⟨below_drewN (bl_set (bl_set HB2.out (by rw [HC.out]; exact Nat.le_refl _) _) (by rw [HC.out]; exact Nat.le_refl _) _) 1, ?_⟩
          rw [if_pos (Or.inr (by rw [← HLL.out]; exact hpl))]
          rfl
        · have hb3 : ¬ (p : Int) < (ll : Int) := by omega
          go_wp2_with fail
          refine wp_region_held_drew (S := fun W => W.cell? ⟨wq, 1, none⟩ = some (.slice a ll c) ∧ W.cell? ⟨fd, 0, none⟩ = some (.int .i64 (p : Int))) hmx (⟨HAC.out, HP0.out⟩) (fun hHeld => ?_)
          refine tkA 0 (.pointer (some ⟨wq, 0, none⟩)) ?_
          simp only [putX]
          refine tkA 1 (.pointer (some ⟨wq, 0, none⟩)) ?_
          simp only [putX]
          refine tkA 2 (.pointer (some ⟨wq, 1, none⟩)) ?_
          simp only [putX]
          refine tkA 3 (.slice a ll c) ?_
          simp only [putX]
          refine tkA 4 (.int .i64 (ll : Int)) ?_
          simp only [putX]
          refine tkA 5 (.bool false) ?_
          simp only [putX]
          refine tkA 6 (.bool false) ?_
          simp only [putX]
          refine tkA 7 (.pointer (some ⟨wq, 0, none⟩)) ?_
          simp only [putX]
          refine tkA 8 (.pointer (some ⟨wq, 0, none⟩)) ?_
          simp only [putX]
          refine tkA 9 (.pointer (some ⟨wq, 1, none⟩)) ?_
          simp only [putX]
          refine tkA 10 (.slice a ll c) ?_
          simp only [putX]
          refine tkA 11 (.int .i64 (ll : Int)) ?_
          simp only [putX]
          refine tkA 12 (.pointer (some ⟨fd, 0, none⟩)) ?_
          simp only [putX]
          refine rdA 13 fun K' hK' => ?_
          go_simp
          refine (fldp_any p fd _ hHeld.2).mono ?_
          rintro e w3 ⟨rfl, rfl⟩
          refine hK'.out _ _ (hHeld) (fun hHeld => ?_)
          clear hK' K'
          refine tkA 14 (.bool false) ?_
          simp only [putX]
          refine tkA 15 (.bool false) ?_
          simp only [putX]
          refine wpAnyH_done (by kernel_rfl) ?_ _
          have HAX := hid (HAR.out w2.drew.drew (below_drewN (below_drewN HB2.out 1) 1))
          have hks : IntKind.i64.wrap ((n : Int) + 1) = (n : Int) + 1 := by rw [IntKind.wrap_i64]; have := HPW.out.2.2; omega
          go_wp2_with fail
          refine wp_region_held_drew (S := fun W => W.cell? ⟨wq, 1, none⟩ = some (.slice a ll c)) hmx (HAC.out) (fun hHeld => ?_)
          refine tkA 0 (.pointer (some ⟨q, 0, none⟩)) ?_
          simp only [putX]
          refine tkA 3 (.pointer (some ⟨wq, 0, none⟩)) ?_
          simp only [putX]
          refine tkA 4 (.pointer (some ⟨wq, 0, none⟩)) ?_
          simp only [putX]
          refine tkA 5 (.pointer (some ⟨wq, 1, none⟩)) ?_
          simp only [putX]
          refine tkA 6 (.slice a ll c) ?_
          simp only [putX]
          refine rdA 1 fun K' hK' => ?_
          go_simp
          refine (HAX.out).mono ?_
          rintro e w3 ⟨rfl, hb3⟩
          have HB3 := hid hb3
          have HCB3 := hid ((hb3.block CB (Array.getElem?_eq_some_iff.1 HCB2.out).1).trans HCB2.out)
          have HOW3 := hid (own_below HOW.out ((below_drewN (below_drewN (Below.refl _ w2) 1) 1).trans hb3))
          have HB23 := hid ((below_drewN (below_drewN HB2.out 1) 1).trans (hb3.mono HB2.out.size))
          have x0 : w3.cell? ⟨CB, 0, none⟩ = some (.int .i64 0) := by simp [World.cell?, HCB3.out]
          have x1 : w3.cell? ⟨CB, 1, none⟩ = some (.slice none 0 0) := by simp [World.cell?, HCB3.out]
          have x2 : w3.frozen? ⟨CB, 0, none⟩ = false := by simp [World.frozen?, HCB3.out]
          have x3 : w3.frozen? ⟨CB, 1, none⟩ = false := by simp [World.frozen?, HCB3.out]
          have HAC3 := hid ((hb3.cell (p := ⟨wq, 1, none⟩) (World.block_lt_of_cell? _ _ HAC.out)).trans HAC.out)
          refine hK'.out _ _ (HAC3.out) (fun hHeld => ?_)
          clear hK' K'
          refine tkA 2 (.int .i64 ((n : Int) + 1)) ?_
          simp only [putX]
          refine tkA 7 (.agg #[.int .i64 ((n : Int) + 1), .slice a ll c]) ?_
          simp only [putX]
          refine rdA 8 fun K' hK' => ?_
          have HAC4 : Hid (((w3.setCell ⟨CB, 0, none⟩ (.int .i64 ((n : Int) + 1))).setCell ⟨CB, 1, none⟩ (.slice a ll c)).cell? ⟨wq, 1, none⟩ = some (.slice a ll c)) := by
            have hne : wq ≠ CB := by have := HQ.out; have := HC.out; omega
            have h := HAC3.out
            unfold Hid World.cell? at *
            rw [Below.heap_setCell _ _ _ _ hne, Below.heap_setCell _ _ _ _ hne]
            exact h
          go_simp
          refine hK'.out _ _ (HAC4.out) (fun hHeld => ?_)
          clear hK' K'
          refine tkA 9 (.nilIface) ?_
          simp only [putX]
          refine wpAnyH_done (by kernel_rfl) ?_ _
          go_wp2_with fail
          refine bodyPost_ret (results_ctM rfl _ _ CB 24 #[.int .i64 ((n : Int) + 1), .slice a ll c] (0, 0) _ rfl (put2_heap HCB3.out _ _) Tryz.underlying24 rfl (by kernel_rfl)) rfl ?_
          unfold CdR
          refine ⟨bl_set (bl_set HB23.out (by rw [HC.out]; exact Nat.le_refl _) _) (by rw [HC.out]; exact Nat.le_refl _) _, ?_⟩
          rw [if_neg (by rw [← HLL.out]; omega), ← HLL.out]
          refine ⟨a, c, rfl, ?_⟩
          have hne : (Value.slice a ll c).ownBlock = none ∨ (Value.slice a ll c).ownBlock ≠ some CB := own_ne HOW3.out HCB3.out (by decide)
          exact own_base ((HOW3.out.kept (gb_one w3 CB 0 _) hne).kept (gb_one _ CB 1 _) hne) (by rw [HNN.out]; exact Nat.le_refl _)

end Go.Proofs.YtmmgkdcojkmlcaaGreatDoor

namespace Go.Proofs.YtmmgkdcojkmlcaaGreatDoor
open Go.RowKit Go.Maps

def setB (L : List InsZ) (k : Nat) (x : Int) : List InsZ := L.set k ⟨(insat L k).op, (insat L k).a, x, (insat L k).c⟩
/-- the first instructions set the parts -/
def wiL (p : Nat) (L : List InsZ) (zs : List Int) : Nat → List InsZ
  | 0 => L
  | i + 1 => setB (wiL p L zs i) i (zat zs i % (p : Int))
def wiOk (L : List InsZ) (i : Nat) : Prop := (insat L i).op = 5 ∧ (insat L i).a = (i : Int)
def wiAll (L : List InsZ) (n : Nat) : Prop := n ≤ L.length ∧ ∀ i, i < n → wiOk L i
theorem setB_len (L : List InsZ) (k : Nat) (x : Int) : (setB L k x).length = L.length := by simp [setB]
theorem setB_at (L : List InsZ) (k j : Nat) (x : Int) (h : k ≠ j) : insat (setB L k x) j = insat L j := by
  simp only [insat, setB, List.getD_eq_getElem?_getD]
  rw [List.getElem?_set_ne h]
theorem wiL_is (p : Nat) (L : List InsZ) (zs : List Int) : ∀ i, (wiL p L zs i).length = L.length ∧ ∀ j, i ≤ j → insat (wiL p L zs i) j = insat L j
  | 0 => ⟨rfl, fun _ _ => rfl⟩
  | i + 1 => by
    obtain ⟨h1, h2⟩ := wiL_is p L zs i
    exact ⟨by rw [wiL, setB_len, h1], fun j hj => by rw [wiL, setB_at _ _ _ _ (by omega)]; exact h2 j (by omega)⟩
theorem insv_setB : ∀ (L : List InsZ) (k : Nat) (x : Int), k < L.length → insv (setB L k x) = (insv L).set (k * 4 + 2) (.int .i64 x)
  | [], _, _, h => by simp at h
  | y :: r, 0, x, _ => rfl
  | y :: r, k + 1, x, h => by
    have ih := insv_setB r k x (by simpa using h)
    have e1 : setB (y :: r) (k + 1) x = y :: setB r k x := by simp [setB, insat]
    rw [e1]
    show _ :: _ :: _ :: _ :: insv (setB r k x) = _
    rw [ih, show (k + 1) * 4 + 2 = (k * 4 + 2) + 1 + 1 + 1 + 1 by omega]
    rfl
/-- how With ends -/
def WiR (p : Nat) (size : Int) (L : List InsZ) (zs : List Int) (w : World) (e : Ending) (w' : World) : Prop := Below w.heap.size w w' ∧
  ((wiAll L zs.length ∧ ∃ v, e = .returned (.tuple #[.agg #[.int .i64 size, v], .nilIface]) ∧ w'.ownsRow w.heap.size 35 4 v L.length (insv (wiL p L zs zs.length))) ∨ (¬ wiAll L zs.length ∧ e = .returned (.tuple #[.agg #[.int .i64 0, .slice none 0 0], .iface 57 (.int .i64 2)])))

set_option maxRecDepth 100000 in
set_option maxHeartbeats 4000000 in
theorem lwith_any (p fd : Nat) (hp3 : 3 ≤ p) (hpm : p ≤ 2147483647) (size : Int) (aL : Option Addr) (cL : Nat) (L : List InsZ) (aA : Option Addr) (cA : Nat) (zs : List Int) (w : World) (hn : L.length ≤ 4398046511104) (hm : zs.length ≤ 17592186044416) (hl : LstI w.heap.size w aL cL L) (hA : Lst w.heap.size w aA cA zs) (hz : ∀ k, k < zs.length → I64z (zat zs k)) (hp0 : w.cell? ⟨fd, 0, none⟩ = some (.int .i64 (p : Int))) :
    Calls Tryz.prog 6 #[.pointer (some ⟨fd, 0, none⟩), .agg #[.int .i64 size, .slice aL L.length cL], .slice aA zs.length cA] w (WiR p size L zs w) := by
  obtain ⟨n, hnn⟩ : ∃ n, n = L.length := ⟨_, rfl⟩
  obtain ⟨m, hmm⟩ : ∃ m, m = zs.length := ⟨_, rfl⟩
  obtain ⟨CB, hCB⟩ : ∃ C, C = w.heap.size + 1 := ⟨_, rfl⟩
  obtain ⟨V, hV⟩ : ∃ V, V = w.alloc (.cells #[.int .i64 size, .slice aL n cL] 24) := ⟨_, rfl⟩
  obtain ⟨W0, hW0⟩ : ∃ W0, W0 = V.alloc (.cells #[.int .i64 0, .slice none 0 0] 24) := ⟨_, rfl⟩
  have b1 : Below w.heap.size w V := by rw [hV]; exact (Below.refl _ _).alloc (Nat.le_refl _) _
  have hs : V.heap.size = w.heap.size + 1 := by rw [hV]; simp
  have b2 : Below V.heap.size V W0 := by rw [hW0]; exact (Below.refl _ _).alloc (Nat.le_refl _) _
  have HB0 := hid (b1.trans (b2.mono b1.size))
  have hr1 : W0.heap[w.heap.size]? = some (.cells #[.int .i64 size, .slice aL n cL] 24 (0, 0)) := (b2.block _ (by omega)).trans (by rw [hV]; exact heap_alloc_new w _)
  have hr2 : W0.heap[CB]? = some (.cells #[.int .i64 0, .slice none 0 0] 24 (0, 0)) := by rw [hW0, hCB, ← hs]; exact heap_alloc_new V _
  have HR1 := hid hr1
  have HR2 := hid hr2
  have HNL := hid hnn
  have HML := hid hmm
  have HCB := hid hCB
  have HW0 := hid (hW0.trans (by rw [hV] : _ = (w.alloc (.cells #[.int .i64 size, .slice aL n cL] 24)).alloc (.cells #[.int .i64 0, .slice none 0 0] 24)))
  have HP : Hid (3 ≤ p ∧ p ≤ 2147483647) := ⟨hp3, hpm⟩
  have HZ := hid hz
  have HCL : Hid (Calls Tryz.prog 17 #[.slice aL n cL] W0 fun e w' => ∃ v, e = .returned v ∧ w'.ownsRow W0.heap.size 35 4 v n (insv L) ∧ Below W0.heap.size W0 w') := by
    have := cloneI_own aL cL L W0 hn ((hl.below HB0.out).mono HB0.out.size)
    rw [← hnn] at this
    exact this
  have HA := hid hA
  have HP0 : Hid (w.cell? ⟨fd, 0, none⟩ = some (.int .i64 (p : Int))) := hp0
  have x1 : W0.cell? ⟨w.heap.size, 1, none⟩ = some (.slice aL n cL) := by simp [World.cell?, hr1]
  have y0 : W0.cell? ⟨CB, 0, none⟩ = some (.int .i64 0) := by simp [World.cell?, hr2]
  have y1 : W0.cell? ⟨CB, 1, none⟩ = some (.slice none 0 0) := by simp [World.cell?, hr2]
  have z0 : W0.frozen? ⟨CB, 0, none⟩ = false := by simp [World.frozen?, hr2]
  have z1 : W0.frozen? ⟨CB, 1, none⟩ = false := by simp [World.frozen?, hr2]
  have hm2 : m ≤ 17592186044416 := by omega
  have hn2 : n ≤ 4398046511104 := by omega
  rw [← hnn, ← hmm]
  clear hnn hmm hV hW0 b1 hs b2 hr1 hr2 hn hm hl hA hz hp0 hp3 hpm hCB
  by_cases hlt : n < m
  · have hlt2 : (n : Int) < (m : Int) := by omega
    go_enter Tryz.func6, Tryz.ntmps6
    go_wp2_with (rw [← HW0.out, ← HCB.out])
    refine bodyPost_ret (results_ctM rfl _ _ CB 24 #[.int .i64 0, .slice none 0 0] (0, 0) _ rfl (put2_heap HR2.out _ _) Tryz.underlying24 rfl (by kernel_rfl)) rfl ?_
    refine ⟨put2_below HB0.out (by have := HCB.out; omega) _ _, Or.inr ⟨fun h => ?_, rfl⟩⟩
    have := h.1
    have := HNL.out
    have := HML.out
    omega
  · have hlt2 : ¬ (n : Int) < (m : Int) := by omega
    go_enter Tryz.func6, Tryz.ntmps6
    go_wp2_with (rw [← HW0.out, ← HCB.out])
    refine HCL.out.mono ?_
    rintro e w2 ⟨v, rfl, hown, hb⟩
    obtain ⟨a2, c2, rfl, hge⟩ := own_slice hown
    have HGE := hid hge
    obtain ⟨B0, hB0⟩ : ∃ B, B = W0.heap.size := ⟨_, rfl⟩
    have HBB : Hid (w.heap.size < B0 ∧ CB < B0 ∧ w.heap.size ≤ CB) := by
      have h1 := (Array.getElem?_eq_some_iff.1 HR2.out).1
      have h2 := HCB.out
      unfold Hid
      omega
    rw [← hB0] at hown HGE
    have HO0 : Hid (w2.ownsRow B0 35 4 (.slice a2 n c2) n (insv (wiL p L zs 0))) := hown
    have HB2 := hid (HB0.out.trans (hb.mono HB0.out.size))
    have HC2 := hid ((hb.block CB (by rw [← hB0]; exact HBB.out.2.1)).trans HR2.out)
    have HD2 := hid ((hb.block w.heap.size (by rw [← hB0]; exact HBB.out.1)).trans HR1.out)
    have HOK0 : Hid (∀ j, j < 0 → wiOk L j) := fun j hj => absurd hj (Nat.not_lt_zero _)
    clear x1 y0 y1 z0 z1 hown hb hge hB0 HCL HW0
    go_wp2_with fail
    go_loopw [24] (fun iv wr => ∃ (i : Nat), i ≤ m ∧ iv = .int .i64 (i : Int) ∧ Hid (wr.ownsRow B0 35 4 (.slice a2 n c2) n (insv (wiL p L zs i))) ∧ Hid (Below w.heap.size w wr) ∧ Hid (wr.heap[CB]? = some (.cells #[.int .i64 0, .slice none 0 0] 24 (0, 0))) ∧ Hid (wr.heap[w.heap.size]? = some (.cells #[.int .i64 size, .slice aL n cL] 24 (0, 0))) ∧ Hid (∀ j, j < i → wiOk L j)) (fun iv _ => m - (intOf iv).toNat)
    case atStart => exact ⟨0, Nat.zero_le _, rfl, HO0, HB2, HC2, HD2, HOK0⟩
    case round =>
      obtain ⟨i, him, rfl, HO, HB, HC, HD, HK⟩ := hrel
      clear HO0 HB2 HC2 HD2 HOK0
      by_cases hit : i < m
      · have hit2 : (i : Int) < (m : Int) := by omega
        have hin : (i : Int) < (n : Int) := by omega
        have hin1 : i < n := by omega
        have hks : IntKind.i64.wrap ((i : Int) + 1) = (i : Int) + 1 := by rw [IntKind.wrap_i64]; omega
        obtain ⟨g, rfl, hgB⟩ := HGE.out (by omega)
        obtain ⟨b, off, rfl, hbl, hbc⟩ := HA.out.row i (by rw [← HML.out]; exact hit)
        have d0 := (HB.out.cell (p := ⟨b, off + i, none⟩) hbl).trans hbc
        obtain ⟨e1, e2⟩ := wiL_is p L zs i
        obtain ⟨i0, i1, i2, i3⟩ := insv_at (wiL p L zs i) i (by rw [e1, ← HNL.out]; exact hin1)
        rw [e2 i (Nat.le_refl _)] at i0 i1 i2 i3
        have c0 := (HO.out.cellAt (i * 4) (by omega)).trans i0
        have c1 := (HO.out.cellAt (i * 4 + 1) (by omega)).trans i1
        have c2' := (HO.out.cellAt (i * 4 + 2) (by omega)).trans i2
        have f2 := HO.out.frozenAt (i * 4 + 2)
        have y0 : wr.cell? ⟨CB, 0, none⟩ = some (.int .i64 0) := by simp [World.cell?, HC.out]
        have y1 : wr.cell? ⟨CB, 1, none⟩ = some (.slice none 0 0) := by simp [World.cell?, HC.out]
        have z0 : wr.frozen? ⟨CB, 0, none⟩ = false := by simp [World.frozen?, HC.out]
        have z1 : wr.frozen? ⟨CB, 1, none⟩ = false := by simp [World.frozen?, HC.out]
        obtain ⟨zi, hzi⟩ : ∃ z, z = zat zs i := ⟨_, rfl⟩
        obtain ⟨o0, ho0⟩ : ∃ o, o = (insat L i).op := ⟨_, rfl⟩
        obtain ⟨o1, ho1⟩ : ∃ o, o = (insat L i).a := ⟨_, rfl⟩
        obtain ⟨o2, ho2⟩ : ∃ o, o = (insat L i).b := ⟨_, rfl⟩
        rw [← ho0] at c0
        rw [← ho1] at c1
        rw [← ho2] at c2'
        rw [← hzi] at d0
        have HZI : Hid (zi = zat zs i ∧ I64z zi) := ⟨hzi, by rw [hzi]; exact HZ.out i (by rw [← HML.out]; exact hit)⟩
        have HOO : Hid (o0 = (insat L i).op ∧ o1 = (insat L i).a) := ⟨ho0, ho1⟩
        have HGB : Hid (B0 ≤ g) := hgB
        clear e1 e2 i0 i1 i2 i3 hzi ho0 ho1 ho2 hbl hbc hgB
        by_cases h5 : o0 = 5
        · by_cases ha : o1 = (i : Int)
          · subst h5 ha
            have HOF := hid (of_any p fd zi wr HP.out.1 HP.out.2 ((HB.out.cell (p := ⟨fd, 0, none⟩) (World.block_lt_of_cell? _ _ HP0.out)).trans HP0.out) HZI.out.2.1 HZI.out.2.2)
            have H1 : Hid ((wr.setCell ⟨g, i * 4 + 2, none⟩ (.int .i64 (zi % (p : Int)))).ownsRow B0 35 4 (.slice (some ⟨g, 0, none⟩) n c2) n (insv (wiL p L zs (i + 1)))) := by
              have := (HO.out.stored (i * 4 + 2) (.int .i64 (zi % (p : Int)))).1
              rw [wiL, insv_setB _ _ _ (by rw [(wiL_is p L zs i).1, ← HNL.out]; exact hin1), ← HZI.out.1]
              exact this
            have H2 : Hid (Below w.heap.size w (wr.setCell ⟨g, i * 4 + 2, none⟩ (.int .i64 (zi % (p : Int))))) := bl_set HB.out (by have := HGB.out; have := HBB.out; omega) _
            have H3 : Hid ((wr.setCell ⟨g, i * 4 + 2, none⟩ (.int .i64 (zi % (p : Int)))).heap[CB]? = some (.cells #[.int .i64 0, .slice none 0 0] 24 (0, 0))) := (Below.heap_setCell _ _ _ _ (by have := HGB.out; have := HBB.out; show CB ≠ g; omega)).trans HC.out
            have H4 : Hid ((wr.setCell ⟨g, i * 4 + 2, none⟩ (.int .i64 (zi % (p : Int)))).heap[w.heap.size]? = some (.cells #[.int .i64 size, .slice aL n cL] 24 (0, 0))) := (Below.heap_setCell _ _ _ _ (by have := HGB.out; have := HBB.out; show w.heap.size ≠ g; omega)).trans HD.out
            have H5 : Hid (∀ j, j < i + 1 → wiOk L j) := fun j hj => by
              by_cases e : j = i
              · rw [e]; exact ⟨HOO.out.1.symm, HOO.out.2.symm⟩
              · exact HK.out j (by omega)
            clear y0 y1 z0 z1
            go_wp2_with fail
            refine HOF.out.mono ?_
            rintro e w3 ⟨rfl, rfl⟩
            go_wp2_with fail
            go_roundw
            case rel => exact ⟨i + 1, by omega, by go_num, H1, H2, H3, H4, H5⟩
            case measure => simp [intOf]; omega
          · have q1 : (o1 != (i : Int)) = true := by simp [ha]
            have q2 : (o1 == (i : Int)) = false := by simp [ha]
            subst h5
            go_wp2_with fail
            refine bodyPost_ret (results_ctM rfl _ _ CB 24 #[.int .i64 0, .slice none 0 0] (0, 0) _ rfl (put2_heap HC.out _ _) Tryz.underlying24 rfl (by kernel_rfl)) rfl ?_
            refine ⟨put2_below HB.out HBB.out.2.2 _ _, Or.inr ⟨fun h => ?_, rfl⟩⟩
            have h2 := h.2 i (by rw [← HML.out]; exact hit)
            exact ha (HOO.out.2.trans h2.2)
        · have q1 : (o0 != 5) = true := by simp [h5]
          have q2 : (o0 == 5) = false := by simp [h5]
          go_wp2_with fail
          refine bodyPost_ret (results_ctM rfl _ _ CB 24 #[.int .i64 0, .slice none 0 0] (0, 0) _ rfl (put2_heap HC.out _ _) Tryz.underlying24 rfl (by kernel_rfl)) rfl ?_
          refine ⟨put2_below HB.out HBB.out.2.2 _ _, Or.inr ⟨fun h => ?_, rfl⟩⟩
          have h2 := h.2 i (by rw [← HML.out]; exact hit)
          exact h5 (HOO.out.1.trans h2.1)
      · obtain rfl : i = m := by omega
        have hit2 : ¬ (i : Int) < (i : Int) := by omega
        have y0 : wr.cell? ⟨CB, 0, none⟩ = some (.int .i64 0) := by simp [World.cell?, HC.out]
        have y1 : wr.cell? ⟨CB, 1, none⟩ = some (.slice none 0 0) := by simp [World.cell?, HC.out]
        have z0 : wr.frozen? ⟨CB, 0, none⟩ = false := by simp [World.frozen?, HC.out]
        have z1 : wr.frozen? ⟨CB, 1, none⟩ = false := by simp [World.frozen?, HC.out]
        have x0 : wr.cell? ⟨w.heap.size, 0, none⟩ = some (.int .i64 size) := by simp [World.cell?, HD.out]
        go_wp2_with fail
        refine bodyPost_ret (results_ctM rfl _ _ CB 24 #[.int .i64 size, .slice a2 n c2] (0, 0) _ rfl (put2_heap HC.out _ _) Tryz.underlying24 rfl (by kernel_rfl)) rfl ?_
        refine ⟨put2_below HB.out HBB.out.2.2 _ _, Or.inl ⟨⟨?_, ?_⟩, _, rfl, ?_⟩⟩
        · have := HNL.out; have := HML.out; omega
        · rw [← HML.out]; exact HK.out
        · rw [← HNL.out, ← HML.out]
          have hne : (Value.slice a2 n c2).ownBlock = none ∨ (Value.slice a2 n c2).ownBlock ≠ some CB := own_ne HO.out HC.out (by decide)
          exact own_base ((HO.out.kept (gb_one wr CB 0 _) hne).kept (gb_one _ CB 1 _) hne) (Nat.le_of_lt HBB.out.1)

end Go.Proofs.YtmmgkdcojkmlcaaGreatDoor
