/- LowerFirst: the walk. -/
import Derived.Test.YtmmgkdcojkmlcaaGreatDoorLFBJ
import Derived.Test.YtmmgkdcojkmlcaaGreatDoorLFBG
import Derived.Test.YtmmgkdcojkmlcaaGreatDoorLFAZ
import Derived.Test.YtmmgkdcojkmlcaaGreatDoorLFAY
import Derived.Deep.CutBlock
namespace Go.Proofs.YtmmgkdcojkmlcaaGreatDoor
open Go.RowKit Go.Maps

theorem newf_yes (q : Nat) (w : World) (h3 : 3 ≤ q) (h4 : q ≤ 2147483647) (hq : Num.Prime q) :
    Calls Tryz.prog 15 #[.int .i64 q] w fun e w' => e = .returned (.tuple #[.pointer (some ⟨w.heap.size, 0, none⟩), .nilIface]) ∧ (∃ cs f, w'.heap[w.heap.size]? = some (.cells cs 61 f) ∧ cs[0]? = some (.int .i64 (q : Int))) ∧ Below w.heap.size w w' ∧ w.heap.size < w'.heap.size := by
  have HQ := hid hq
  clear hq
  go_enter Tryz.func15, Tryz.ntmps15
  go_wp2_with fail
  refine (least_any q _ (by omega) (by omega)).mono ?_
  rintro e w1 ⟨d, rfl, hl, rfl⟩
  have hdq := Num.least_unique hl (Num.prime_least HQ.out)
  subst hdq
  clear hl
  go_wp2_with fail
  go_ret2
  exact ⟨rfl, ⟨_, _, heap_alloc_new _ _, rfl⟩, (Below.refl _ _).alloc (Nat.le_refl _) _, by simp⟩
theorem fieldf_yes (q : Nat) (w : World) (h3 : 3 ≤ q) (h4 : q ≤ 2147483647) (hq : Num.Prime q) :
    Calls Tryz.prog 4 #[.int .i64 q] w fun e w' => e = .returned (.tuple #[.pointer (some ⟨w.heap.size, 0, none⟩), .bool true]) ∧ (∃ cs f, w'.heap[w.heap.size]? = some (.cells cs 61 f) ∧ cs[0]? = some (.int .i64 (q : Int))) ∧ Below w.heap.size w w' ∧ w.heap.size < w'.heap.size := by
  have hn := hid (newf_yes q w h3 h4 hq)
  have hpy := hid (fun w => prime_yes q w h3 h4 hq)
  clear hq
  go_enter Tryz.func4, Tryz.ntmps4
  go_wp2_with fail
  refine hn.out.mono ?_
  rintro e w1 ⟨rfl, hc, hb, hlt⟩
  have HB := hid hb
  have HC := hid hc
  clear hb hc
  go_wp2_with fail
  refine (hpy.out w1).mono ?_
  rintro e w2 ⟨rfl, rfl⟩
  go_wp2_with fail
  refine (error_nil 0 w2).mono ?_
  rintro e w3 ⟨rfl, rfl⟩
  go_wp2_with fail
  go_ret2
  exact ⟨rfl, HC.out, HB.out, hlt⟩
theorem prs_szL {T : ByteArray} {fs : List FnT} {j : Nat} (h : prs T = .ok fs j) (hT : T.size ≤ 4000) : pwgt fs ≤ 4000 := by
  rw [prs_of] at h
  cases hq : pProg (by' T) (4 * T.size + 1) [] 0 with
  | out => rw [hq] at h; cases h
  | bad e a => rw [hq] at h; cases h
  | ok gs k =>
    rw [hq] at h
    have hz := pProg_sz (by' T) (4 * T.size + 1) [] 0 (Nat.zero_le _) gs k hq
    have hx := pProg_al (by' T) (by rw [by_len]; exact hT) (4 * T.size + 1) [] 0 (by simp) (Nat.le_refl _) (Nat.zero_le _)
    rw [hq] at hx
    have hx2 := hx.1.2
    rw [by_len] at hx2
    have hgs : gs = fs := by
      cases hc : ckn gs T.size with
      | none => rw [prsOf_none hc] at h; cases h; rfl
      | some e => rw [prsOf_some hc] at h; cases h
    subst hgs
    have : pwgt ([] : List FnT) = 0 := rfl
    omega
theorem fnd_mainL {fs : List FnT} {i : Nat} {g : FnT} (hF : FsOk fs) (hgi : fs[i]? = some g) (hgn : g.name = mainW) : fnd fs mainW = some i := by
  rw [← hgn]
  refine fnd_at (fun j g' hj hg' e => ?_) hgi rfl
  have := hF.one hg' hgi e
  omega
/-- what With gives, in one form -/
theorem WiR.both {p : Nat} {size : Int} {L : List InsZ} {zs : List Int} {w w' : World} {e : Ending} (h : WiR p size L zs w e w') :
    ∃ (sz : Int) (LL : List InsZ) (a : Option Addr) (c : Nat) (z : Int), e = .returned (.tuple #[.agg #[.int .i64 sz, .slice a LL.length c], errV z]) ∧ LstI w'.heap.size w' a c LL ∧ Below w.heap.size w w' ∧ ((wiAll L zs.length ∧ z = 0 ∧ sz = size ∧ LL = wiL p L zs zs.length) ∨ (¬ wiAll L zs.length ∧ z = 2 ∧ sz = 0 ∧ LL = [])) := by
  obtain ⟨hb, ⟨h1, v, rfl, ho⟩ | ⟨h1, rfl⟩⟩ := h
  · rw [← (wiL_is p L zs zs.length).1] at ho
    obtain ⟨a, c, rfl, hl, _⟩ := lstI_of_owns ho
    exact ⟨size, _, a, c, 0, rfl, hl, hb, Or.inl ⟨h1, rfl, rfl, rfl⟩⟩
  · exact ⟨0, [], none, 0, 2, rfl, ⟨fun k hk => by simp at hk, by simp, fun _ => rfl⟩, hb, Or.inr ⟨h1, rfl, rfl, rfl⟩⟩
/-- the instructions that With gives, as the law's own loop makes them -/
structure LfE (q : Nat) (size : Int) (L : List InsZ) (zs : List Int) (z sz : Int) (LL : List InsZ) : Prop where
  is : (wiAll L zs.length ∧ z = 0 ∧ sz = size ∧ LL = wiL q L zs zs.length) ∨ (¬ wiAll L zs.length ∧ z = 2 ∧ sz = 0 ∧ LL = [])
theorem LfE.one {q : Nat} {size : Int} {L : List InsZ} {zs : List Int} {z z' sz sz' : Int} {LL LL' : List InsZ} (h : LfE q size L zs z sz LL) (k : LfE q size L zs z' sz' LL') : z' = z ∧ sz' = sz ∧ LL' = LL := by
  rcases h.is with ⟨h1, rfl, rfl, rfl⟩ | ⟨h1, rfl, rfl, rfl⟩ <;> rcases k.is with ⟨k1, rfl, rfl, rfl⟩ | ⟨k1, rfl, rfl, rfl⟩
  · exact ⟨rfl, rfl, rfl⟩
  · exact absurd h1 k1
  · exact absurd k1 h1
  · exact ⟨rfl, rfl, rfl⟩
/-- what stays, once With has answered -/
structure LfS (q : Nat) (size : Int) (aL : Option Addr) (n cL : Nat) (L : List InsZ) (FB C6 C11 C12 : Nat) (a2 : Option Addr) (c2 : Nat) (sz : Int) (a4 : Option Addr) (ln c4 : Nat) (LL : List InsZ) (w W : World) : Prop where
  bel : Below w.heap.size w W
  c6 : W.heap[C6]? = some (.cells #[.int .i64 size, .slice aL n cL] 24 (0, 0))
  c11 : W.heap[C11]? = some (.cells #[.int .i64 size, .slice a2 n c2] 24 (0, 0))
  c12 : W.heap[C12]? = some (.cells #[.int .i64 sz, .slice a4 ln c4] 24 (0, 0))
  fb : ∃ cs f, W.heap[FB]? = some (.cells cs 61 f) ∧ cs[0]? = some (.int .i64 (q : Int))
  l11 : LstI W.heap.size W a2 c2 L
  l12 : LstI W.heap.size W a4 c4 LL
theorem LfS.below {q : Nat} {size : Int} {aL : Option Addr} {n cL : Nat} {L : List InsZ} {FB C6 C11 C12 : Nat} {a2 : Option Addr} {c2 : Nat} {sz : Int} {a4 : Option Addr} {ln c4 : Nat} {LL : List InsZ} {w W W' : World} (h : LfS q size aL n cL L FB C6 C11 C12 a2 c2 sz a4 ln c4 LL w W) (e : Below W.heap.size W W') : LfS q size aL n cL L FB C6 C11 C12 a2 c2 sz a4 ln c4 LL w W' := by
  obtain ⟨cs, f, h1, h2⟩ := h.fb
  exact ⟨h.bel.trans (e.mono h.bel.size), (e.block _ (Array.getElem?_eq_some_iff.1 h.c6).1).trans h.c6, (e.block _ (Array.getElem?_eq_some_iff.1 h.c11).1).trans h.c11, (e.block _ (Array.getElem?_eq_some_iff.1 h.c12).1).trans h.c12, ⟨cs, f, (e.block _ (Array.getElem?_eq_some_iff.1 h1).1).trans h1, h2⟩, (h.l11.below e).mono e.size, (h.l12.below e).mono e.size⟩
theorem LfS.p0 {q : Nat} {size : Int} {aL : Option Addr} {n cL : Nat} {L : List InsZ} {FB C6 C11 C12 : Nat} {a2 : Option Addr} {c2 : Nat} {sz : Int} {a4 : Option Addr} {ln c4 : Nat} {LL : List InsZ} {w W : World} (h : LfS q size aL n cL L FB C6 C11 C12 a2 c2 sz a4 ln c4 LL w W) : W.cell? ⟨FB, 0, none⟩ = some (.int .i64 (q : Int)) := by
  obtain ⟨cs, f, h1, h2⟩ := h.fb
  simp [World.cell?, h1, h2]

set_option maxRecDepth 100000 in
set_option maxHeartbeats 16000000 in
/-- where there is a field -/
theorem lfirst_yes (q : Nat) (size : Int) (aL : Option Addr) (cL : Nat) (L : List InsZ) (aA : Option Addr) (cA : Nat) (zs : List Int) (TX : ByteArray) (w : World) (hL : Laid w) (hEv : EvW w) (hT : TX.size ≤ 281474976710656) (h3 : 3 ≤ q) (h4 : q ≤ 2147483647) (hpr : Num.Prime q) (hn : L.length ≤ 4398046511104) (hm : zs.length ≤ 17592186044416) (hl : LstI w.heap.size w aL cL L) (hA : Lst w.heap.size w aA cA zs) (hz : ∀ k, k < zs.length → I64z (zat zs k)) :
    Calls Tryz.prog 3 #[.int .i64 q, .string TX, .agg #[.int .i64 size, .slice aL L.length cL], .slice aA zs.length cA] w fun e w' => e = .returned (.bool true) ∧ Below w.heap.size w w' := by
  have hmx : Tryz.prog.follows .mixedOrders = true := by kernel_rfl
  obtain ⟨n, hnn⟩ : ∃ n, n = L.length := ⟨_, rfl⟩
  obtain ⟨m, hmm⟩ : ∃ m, m = zs.length := ⟨_, rfl⟩
  obtain ⟨W0, hW0⟩ : ∃ W0, W0 = w.alloc (.cells #[.int .i64 size, .slice aL n cL] 24) := ⟨_, rfl⟩
  have hb0 : Below w.heap.size w W0 := by rw [hW0]; exact (Below.refl _ _).alloc (Nat.le_refl _) _
  have HC0 : Hid (W0.heap[w.heap.size]? = some (.cells #[.int .i64 size, .slice aL n cL] 24 (0, 0))) := by unfold Hid; rw [hW0]; exact heap_alloc_new w _
  have HB0 := hid hb0
  have HF := hid (fieldf_yes q W0 h3 h4 hpr)
  have HCP := hid (fun (W : World) (hb : Below w.heap.size w W) => mcopied_own size aL cL L W hn ((hl.below hb).mono hb.size))
  have HWI := hid (fun (fd : Nat) (a2 : Option Addr) (c2 : Nat) (W : World) (hb : Below w.heap.size w W) (hlW : LstI W.heap.size W a2 c2 L) (hc : W.cell? ⟨fd, 0, none⟩ = some (.int .i64 (q : Int))) => lwith_any q fd h3 h4 size a2 c2 L aA cA zs W hn hm hlW ((hA.below hb).mono hb.size) hz hc)
  have HAL := hid (fun (sz : Int) (a1 a2 : Option Addr) (d1 d2 : Nat) (LL : List InsZ) (W : World) (hl : LL.length ≤ 4398046511104) (h1 : LstI W.heap.size W a1 d1 LL) (h2 : LstI W.heap.size W a2 d2 LL) => alike_same sz a1 a2 d1 d2 LL W (by omega) h1 h2)
  have HLI := hid (fun (W : World) (hb : Below w.heap.size w W) => (hl.below hb).mono hb.size)
  have HAI := hid (fun (W : World) (hb : Below w.heap.size w W) => hA.below hb)
  have HLD := hid hL
  have HPS := hid (fun (W : World) (hb : Below w.heap.size w W) => parse_is TX W hT (hEv.below hb))
  have HRP := hid (fun (W : World) => rparse_any TX W hT)
  have HWW := hid (fun (fs : List FnT) (j : Nat) (h : prs TX = .ok fs j) => prs_ok h)
  have HSZ := hid (fun (fs : List FnT) (j : Nat) (h : prs TX = .ok fs j) (h4 : TX.size ≤ 4000) => prs_szL h h4)
  have HNL := hid hnn
  have HML := hid hmm
  have HN : Hid (L.length ≤ 4398046511104 ∧ zs.length ≤ 17592186044416) := ⟨hn, hm⟩
  have hnb : n ≤ 4398046511104 := by omega
  have hmb : m ≤ 17592186044416 := by omega
  have HZ := hid hz
  have HQ : Hid (3 ≤ q ∧ q ≤ 2147483647) := ⟨h3, h4⟩
  unfold RpE at HRP
  generalize prs TX = r at HPS HWW HRP HSZ
  rw [← hnn] at HCP HWI ⊢
  rw [← hmm] at HWI ⊢
  clear hb0 hl hA hL hEv hz hpr hn hm hnn hmm hT h3 h4
  go_enter Tryz.func3, Tryz.ntmps3
  go_wp2_with fail
  rw [← hW0]
  refine HF.out.mono ?_
  rintro e w1 ⟨rfl, hc1, hb1, hlt1⟩
  have HB1 := hid (HB0.out.trans (hb1.mono HB0.out.size))
  have HC1 := hid ((hb1.block _ (Array.getElem?_eq_some_iff.1 HC0.out).1).trans HC0.out)
  have k0 : w1.cell? ⟨w.heap.size, 0, none⟩ = some (.int .i64 size) := by simp [World.cell?, HC1.out]
  have k1 : w1.cell? ⟨w.heap.size, 1, none⟩ = some (.slice aL n cL) := by simp [World.cell?, HC1.out]
  have HK1 := hid hc1
  obtain ⟨FB, hFB⟩ : ∃ F, F = W0.heap.size := ⟨_, rfl⟩
  rw [← hFB] at HK1
  have HFB := hid hFB
  rw [← hFB]
  clear hb1 HB0 HC0 HF hW0 hc1 hlt1 hFB
  go_wp2_with fail
  refine (HCP.out w1 HB1.out).mono ?_
  rintro e w2 ⟨v2, rfl, hl2, hb2⟩
  obtain ⟨a2, c2, rfl, _⟩ := own_slice hl2
  have HL2i : Hid (LstI w2.heap.size w2 a2 c2 L) := by
    rw [HNL.out] at hl2
    obtain ⟨a, c, e, h, _⟩ := lstI_of_owns hl2
    injection e with e1 e2 e3
    rw [e1, e3]
    exact h
  have HB2 := hid (HB1.out.trans (hb2.mono HB1.out.size))
  have HC2 := hid ((hb2.block _ (Array.getElem?_eq_some_iff.1 HC1.out).1).trans HC1.out)
  have HK2 : Hid (∃ cs f, w2.heap[FB]? = some (.cells cs 61 f) ∧ cs[0]? = some (.int .i64 (q : Int))) := by
    obtain ⟨cs, f, h1, h2⟩ := HK1.out
    exact ⟨cs, f, (hb2.block _ (Array.getElem?_eq_some_iff.1 h1).1).trans h1, h2⟩
  obtain ⟨W2, hW2⟩ : ∃ W2, W2 = w2.alloc (.cells #[.int .i64 size, .slice a2 n c2] 24) := ⟨_, rfl⟩
  have hbb : Below w2.heap.size w2 W2 := by rw [hW2]; exact (Below.refl _ _).alloc (Nat.le_refl _) _
  have HO3 : Hid (W2.heap[w2.heap.size]? = some (.cells #[.int .i64 size, .slice a2 n c2] 24 (0, 0))) := by unfold Hid; rw [hW2]; exact heap_alloc_new w2 _
  have HB3 := hid (HB2.out.trans (hbb.mono HB2.out.size))
  have HC3 := hid ((hbb.block _ (Array.getElem?_eq_some_iff.1 HC2.out).1).trans HC2.out)
  have HK3 : Hid (∃ cs f, W2.heap[FB]? = some (.cells cs 61 f) ∧ cs[0]? = some (.int .i64 (q : Int))) := by
    obtain ⟨cs, f, h1, h2⟩ := HK2.out
    exact ⟨cs, f, (hbb.block _ (Array.getElem?_eq_some_iff.1 h1).1).trans h1, h2⟩
  have HL3 : Hid (LstI W2.heap.size W2 a2 c2 L) := (HL2i.out.below hbb).mono hbb.size
  have HP3 : Hid (W2.cell? ⟨FB, 0, none⟩ = some (.int .i64 (q : Int))) := by
    obtain ⟨cs, f, h1, h2⟩ := HK3.out
    simp [Hid, World.cell?, h1, h2]
  obtain ⟨C11, hC11⟩ : ∃ C, C = w2.heap.size := ⟨_, rfl⟩
  rw [← hC11] at HO3
  have HW2 := hid hW2
  have HC11 := hid hC11
  clear hb2 hl2 HB1 HC1 HK1 k0 k1 hbb HB2 HC2 HK2 HL2i hW2 hC11
  have j0 : W2.cell? ⟨C11, 0, none⟩ = some (.int .i64 size) := by simp [World.cell?, HO3.out]
  have j1 : W2.cell? ⟨C11, 1, none⟩ = some (.slice a2 n c2) := by simp [World.cell?, HO3.out]
  go_wp2_with (rw [← HW2.out, ← HC11.out])
  refine (HWI.out FB a2 c2 W2 HB3.out HL3.out HP3.out).mono ?_
  intro e w4 hr4
  obtain ⟨sz, LL, a4, c4, z, rfl, hl4, hb4, hor⟩ := hr4.both
  have HE4 : Hid (LfE q size L zs z sz LL) := ⟨hor⟩
  have HLL : Hid (LL.length ≤ 4398046511104) := by
    rcases hor with ⟨_, _, _, rfl⟩ | ⟨_, _, _, rfl⟩
    · unfold Hid; rw [(wiL_is q L zs zs.length).1]; exact HN.out.1
    · simp [Hid]
  obtain ⟨ln, hln⟩ : ∃ ln, ln = LL.length := ⟨_, rfl⟩
  have HLN := hid hln
  rw [← hln]
  obtain ⟨C6, hC6⟩ : ∃ C, C = w.heap.size := ⟨_, rfl⟩
  obtain ⟨C12, hC12⟩ : ∃ C, C = w4.heap.size := ⟨_, rfl⟩
  obtain ⟨W4, hW4⟩ : ∃ W, W = w4.alloc (.cells #[.int .i64 sz, .slice a4 ln c4] 24) := ⟨_, rfl⟩
  have hbb : Below w4.heap.size w4 W4 := by rw [hW4]; exact (Below.refl _ _).alloc (Nat.le_refl _) _
  have HS4 : Hid (LfS q size aL n cL L FB C6 C11 C12 a2 c2 sz a4 ln c4 LL w W4) := by
    obtain ⟨cs, f, h1, h2⟩ := HK3.out
    have hb34 := hb4.trans (hbb.mono hb4.size)
    exact ⟨HB3.out.trans (hb34.mono HB3.out.size), by rw [hC6]; exact (hb34.block _ (Array.getElem?_eq_some_iff.1 HC3.out).1).trans HC3.out, (hb34.block _ (Array.getElem?_eq_some_iff.1 HO3.out).1).trans HO3.out, by rw [hW4, hC12]; exact heap_alloc_new w4 _, ⟨cs, f, (hb34.block _ (Array.getElem?_eq_some_iff.1 h1).1).trans h1, h2⟩, (HL3.out.below hb34).mono hb34.size, (hl4.below hbb).mono hbb.size⟩
  have HCW : Hid (w.heap.size ≤ C12) := by rw [hC12]; exact Nat.le_trans HB3.out.size hb4.size
  have HW4 := hid hW4
  have HC12 := hid hC12
  have HC6 := hid hC6
  clear hr4 hl4 hb4 hor hln hC12 hW4 hC6 hbb HW2 HC11 HB3 HC3 HO3 HK3 HL3 HP3 HWI j0 j1
  have k0 : W4.cell? ⟨C6, 0, none⟩ = some (.int .i64 size) := by simp [World.cell?, HS4.out.c6]
  have k1 : W4.cell? ⟨C6, 1, none⟩ = some (.slice aL n cL) := by simp [World.cell?, HS4.out.c6]
  go_wp2_with (rw [← HW4.out, ← HC12.out, ← HC6.out])
  refine (HCP.out W4 HS4.out.bel).mono ?_
  rintro e w6 ⟨v6, rfl, hl6, hb6⟩
  obtain ⟨a6, c6, rfl, hge6⟩ := own_slice hl6
  obtain ⟨C15, hC15⟩ : ∃ C, C = w6.heap.size := ⟨_, rfl⟩
  obtain ⟨W6, hW6⟩ : ∃ W, W = w6.alloc (.cells #[.int .i64 size, .slice a6 n c6] 24) := ⟨_, rfl⟩
  have hbb : Below w6.heap.size w6 W6 := by rw [hW6]; exact (Below.refl _ _).alloc (Nat.le_refl _) _
  have HB6 := hid (hb6.trans (hbb.mono hb6.size))
  have HO6 : Hid (W6.ownsRow W4.heap.size 35 4 (.slice a6 n c6) n (insv (wiL q L zs 0))) := own_below hl6 hbb
  have HD6 : Hid (W6.heap[C15]? = some (.cells #[.int .i64 size, .slice a6 n c6] 24 (0, 0))) := by unfold Hid; rw [hW6, hC15]; exact heap_alloc_new w6 _
  have HC15 : Hid (C15 = w6.heap.size ∧ W4.heap.size ≤ C15) := ⟨hC15, by rw [hC15]; exact hb6.size⟩
  have HGE := hid hge6
  have HW6 := hid hW6
  have HOK0 : Hid (∀ j, j < 0 → wiOk L j) := fun j hj => absurd hj (Nat.not_lt_zero _)
  clear hl6 hb6 hge6 hC15 hW6 hbb k0 k1 HCP
  go_upto_block 0 with (rw [← HW6.out, ← HC15.out.1])
  go_cut [14, 16] from 53 to 94 (fun s14 s16 wx => ∃ (i : Nat) (z' sz' : Int) (a7 : Option Addr) (c7 : Nat) (LL' : List InsZ), s14 = .int .i64 z' ∧ s16 = .int .i64 (i : Int) ∧ Hid (LfE q size L zs z' sz' LL') ∧ Hid (Below W4.heap.size W4 wx) ∧ Hid (wx.heap[C15]? = some (.cells #[.int .i64 sz', .slice a7 LL'.length c7] 24 (0, 0))) ∧ Hid (LstI wx.heap.size wx a7 c7 LL'))
  case first =>
    go_wp2_with fail
    go_loopw [14, 16] (fun ev iv wr => ∃ (i : Nat), i ≤ m ∧ ev = .int .i64 0 ∧ iv = .int .i64 (i : Int) ∧ Hid (wr.ownsRow W4.heap.size 35 4 (.slice a6 n c6) n (insv (wiL q L zs i))) ∧ Hid (Below W4.heap.size W4 wr) ∧ Hid (wr.heap[C15]? = some (.cells #[.int .i64 size, .slice a6 n c6] 24 (0, 0))) ∧ Hid (∀ j, j < i → wiOk L j) ∧ i ≤ n) (fun _ iv _ => m - (intOf iv).toNat)
    case atStart => exact ⟨0, Nat.zero_le _, rfl, rfl, HO6, HB6, HD6, HOK0, Nat.zero_le _⟩
    case round =>
      obtain ⟨i, him, rfl, rfl, HO, HB, HD, HK, hinn⟩ := hrel
      clear HO6 HB6 HD6 HOK0
      have y0 : wr.cell? ⟨C15, 0, none⟩ = some (.int .i64 size) := by simp [World.cell?, HD.out]
      have y1 : wr.cell? ⟨C15, 1, none⟩ = some (.slice a6 n c6) := by simp [World.cell?, HD.out]
      have z0 : wr.frozen? ⟨C15, 0, none⟩ = false := by simp [World.frozen?, HD.out]
      have z1 : wr.frozen? ⟨C15, 1, none⟩ = false := by simp [World.frozen?, HD.out]
      have HBAD : Hid (¬ wiAll L m → ∃ (i' : Nat) (z' sz' : Int) (a7 : Option Addr) (c7 : Nat) (LL' : List InsZ), Value.int .i64 2 = .int .i64 z' ∧ Value.int .i64 (i : Int) = .int .i64 (i' : Int) ∧ Hid (LfE q size L zs z' sz' LL') ∧ Hid (Below W4.heap.size W4 ((wr.setCell ⟨C15, 0, none⟩ (.int .i64 0)).setCell ⟨C15, 1, none⟩ (.slice none 0 0))) ∧ Hid (((wr.setCell ⟨C15, 0, none⟩ (.int .i64 0)).setCell ⟨C15, 1, none⟩ (.slice none 0 0)).heap[C15]? = some (.cells #[.int .i64 sz', .slice a7 LL'.length c7] 24 (0, 0))) ∧ Hid (LstI ((wr.setCell ⟨C15, 0, none⟩ (.int .i64 0)).setCell ⟨C15, 1, none⟩ (.slice none 0 0)).heap.size ((wr.setCell ⟨C15, 0, none⟩ (.int .i64 0)).setCell ⟨C15, 1, none⟩ (.slice none 0 0)) a7 c7 LL')) := fun hb =>
        ⟨i, 2, 0, none, 0, [], rfl, rfl, ⟨Or.inr ⟨by rw [← HML.out]; exact hb, rfl, rfl, rfl⟩⟩, put2_below HB.out HC15.out.2 _ _, put2_heap HD.out _ _, ⟨fun k hk => by simp at hk, by simp, fun _ => rfl⟩⟩
      by_cases hit : i < m
      · have hit2 : (i : Int) < (m : Int) := by omega
        by_cases hin1 : i < n
        · have hin : (i : Int) < (n : Int) := by omega
          have hin2 : ¬ (n : Int) ≤ (i : Int) := by omega
          have hks : IntKind.i64.wrap ((i : Int) + 1) = (i : Int) + 1 := by rw [IntKind.wrap_i64]; omega
          obtain ⟨g, rfl, hgB⟩ := HGE.out (by omega)
          obtain ⟨b, off, rfl, hbl, hbc⟩ := (HAI.out W4 HS4.out.bel).row i (by rw [← HML.out]; exact hit)
          have hbl4 : b < W4.heap.size := Nat.lt_of_lt_of_le hbl HS4.out.bel.size
          have d0 := (HB.out.cell (p := ⟨b, off + i, none⟩) hbl4).trans hbc
          obtain ⟨e1, e2⟩ := wiL_is q L zs i
          obtain ⟨i0, i1, i2, i3⟩ := insv_at (wiL q L zs i) i (by rw [e1, ← HNL.out]; exact hin1)
          rw [e2 i (Nat.le_refl _)] at i0 i1 i2 i3
          have c0 := (HO.out.cellAt (i * 4) (by omega)).trans i0
          have c1 := (HO.out.cellAt (i * 4 + 1) (by omega)).trans i1
          have c2' := (HO.out.cellAt (i * 4 + 2) (by omega)).trans i2
          have f2 := HO.out.frozenAt (i * 4 + 2)
          obtain ⟨zi, hzi⟩ : ∃ z, z = zat zs i := ⟨_, rfl⟩
          obtain ⟨o0, ho0⟩ : ∃ o, o = (insat L i).op := ⟨_, rfl⟩
          obtain ⟨o1, ho1⟩ : ∃ o, o = (insat L i).a := ⟨_, rfl⟩
          obtain ⟨o2, ho2⟩ : ∃ o, o = (insat L i).b := ⟨_, rfl⟩
          rw [← ho0] at c0
          rw [← ho1] at c1
          rw [← ho2] at c2'
          rw [← hzi] at d0
          have HZI : Hid (zi = zat zs i ∧ I64z zi) := ⟨hzi, by rw [hzi]; exact HZ.out i (by rw [← HML.out]; exact hit)⟩
          have HOO : Hid (o0 = (insat L i).op ∧ o1 = (insat L i).a) := ⟨ho0, ho1⟩
          have HGB : Hid (W4.heap.size ≤ g ∧ b < W4.heap.size) := ⟨hgB, hbl4⟩
          clear e1 e2 i0 i1 i2 i3 hzi ho0 ho1 ho2 hbl hbc hgB hbl4
          by_cases h5 : o0 = 5
          · by_cases ha : o1 = (i : Int)
            · subst h5 ha
              have HP0 := hid ((HB.out.cell (p := ⟨FB, 0, none⟩) (World.block_lt_of_cell? _ _ HS4.out.p0)).trans HS4.out.p0)
              obtain ⟨WS, hWS⟩ : ∃ W, W = (wr.setCell ⟨g, i * 4 + 2, none⟩ (.int .i64 (zi % (q : Int)))).drew := ⟨_, rfl⟩
              have hFB4 : FB < W4.heap.size := World.block_lt_of_cell? _ _ HS4.out.p0
              have H1 : Hid (WS.ownsRow W4.heap.size 35 4 (.slice (some ⟨g, 0, none⟩) n c6) n (insv (wiL q L zs (i + 1)))) := by
                have := (HO.out.stored (i * 4 + 2) (.int .i64 (zi % (q : Int)))).1
                rw [wiL, insv_setB _ _ _ (by rw [(wiL_is q L zs i).1, ← HNL.out]; exact hin1), ← HZI.out.1, hWS]
                exact this
              have hbW : Below W4.heap.size W4 WS := by rw [hWS]; exact below_drewN (bl_set HB.out HGB.out.1 _) 1
              have H2 : Hid (Below W4.heap.size W4 WS) := hbW
              have hcg : C15 ≠ g := fun e => by
                subst e
                rcases HO.out.2 with ⟨h, _⟩ | ⟨g', cap, cur, h, _, hh, _⟩
                · cases h
                · injection h with h
                  injection h with h
                  injection h with h
                  subst h
                  rw [HD.out] at hh
                  injection hh with hh
                  injection hh with _ hh _
                  exact absurd hh (by decide)
              have H3 : Hid (WS.heap[C15]? = some (.cells #[.int .i64 size, .slice (some ⟨g, 0, none⟩) n c6] 24 (0, 0))) := by rw [hWS]; exact (Below.heap_setCell _ _ _ _ hcg).trans HD.out
              have H5 : Hid (∀ j, j < i + 1 → wiOk L j) := fun j hj => by
                by_cases e : j = i
                · rw [e]; exact ⟨HOO.out.1.symm, HOO.out.2.symm⟩
                · exact HK.out j (by omega)
              have HSS : Hid (WS.cell? ⟨C15, 1, none⟩ = some (.slice (some ⟨g, 0, none⟩) n c6) ∧ WS.cell? ⟨b, off + i, none⟩ = some (.int .i64 zi) ∧ WS.cell? ⟨FB, 0, none⟩ = some (.int .i64 (q : Int))) := by
                refine ⟨by simp [World.cell?, H3.out], ?_, (hbW.cell (p := ⟨FB, 0, none⟩) hFB4).trans HS4.out.p0⟩
                have e0 := (HB.out.cell (p := ⟨b, off + i, none⟩) HGB.out.2)
                exact (hbW.cell (p := ⟨b, off + i, none⟩) HGB.out.2).trans (e0.symm.trans d0)
              have HY := hid y1
              have HD0 := hid d0
              have HWS := hid hWS
              clear y0 z0 z1 hbW hcg hFB4 hWS
              go_wp2_with fail
              refine wp_region_held_drew (S := fun W => W.cell? ⟨C15, 1, none⟩ = some (.slice (some ⟨g, 0, none⟩) n c6) ∧ W.cell? ⟨b, off + i, none⟩ = some (.int .i64 zi) ∧ W.cell? ⟨FB, 0, none⟩ = some (.int .i64 (q : Int))) hmx (⟨HY.out, HD0.out, HP0.out⟩) (fun hHeld => ?_)
              refine tkA 0 (.pointer (some ⟨C15, 1, none⟩)) ?_
              simp only [putX]
              refine tkA 1 (.slice (some ⟨g, 0, none⟩) n c6) ?_
              simp only [putX]
              refine tkA 2 (.int .i64 (i : Int)) ?_
              simp only [putX]
              refine tkA 3 (.pointer (some ⟨FB, 0, none⟩)) ?_
              simp only [putX]
              refine tkA 4 (.slice (some ⟨b, off, none⟩) m cA) ?_
              simp only [putX]
              refine tkA 5 (.int .i64 (i : Int)) ?_
              simp only [putX]
              refine tkA 6 (.pointer (some ⟨b, off + i, none⟩)) ?_
              simp only [putX]
              refine tkA 7 (.int .i64 zi) ?_
              simp only [putX]
              refine rdA 8 fun K' hK' => ?_
              go_simp
              refine (of_any q FB zi _ HQ.out.1 HQ.out.2 hHeld.2.2 HZI.out.2.1 HZI.out.2.2).mono ?_
              rintro e w3 ⟨rfl, rfl⟩
              refine hK'.out _ _ (hHeld) (fun hHeld => ?_)
              clear hK' K'
              refine tkA 9 (.pointer (some ⟨g, i * 4, none⟩)) ?_
              simp only [putX]
              refine tkA 10 (.pointer (some ⟨g, i * 4 + 2, none⟩)) ?_
              simp only [putX]
              refine rdA 11 fun K' hK' => ?_
              go_simp
              refine hK'.out _ _ (by rw [← HWS.out]; exact HSS.out) (fun hHeld => ?_)
              clear hK' K'
              refine wpAnyH_done (by kernel_rfl) ?_ _
              go_wp2_with fail
              go_roundw
              case rel => exact ⟨i + 1, by omega, rfl, by go_num, by rw [HWS.out] at H1; exact H1, by rw [HWS.out] at H2; exact H2, by rw [HWS.out] at H3; exact H3, H5, by omega⟩
              case measure => simp [intOf]; omega
            · have q1 : (o1 != (i : Int)) = true := by simp [ha]
              have q2 : (o1 == (i : Int)) = false := by simp [ha]
              subst h5
              go_wp2_with fail
              go_meet
              exact HBAD.out (fun h => ha (HOO.out.2.trans (h.2 i hit).2))
          · have q1 : (o0 != 5) = true := by simp [h5]
            have q2 : (o0 == 5) = false := by simp [h5]
            go_wp2_with fail
            go_meet
            exact HBAD.out (fun h => h5 (HOO.out.1.trans (h.2 i hit).1))
        · have hin2 : (n : Int) ≤ (i : Int) := by omega
          go_wp2_with fail
          go_meet
          exact HBAD.out (fun h => by have := h.1; have := HNL.out; omega)
      · obtain rfl : i = m := by omega
        have hit2 : ¬ (i : Int) < (i : Int) := by omega
        go_wp2_with fail
        go_meet
        have ho := HO.out
        have hw : wiL q L zs i = wiL q L zs zs.length := by rw [← HML.out]
        have hln : n = (wiL q L zs zs.length).length := by rw [(wiL_is q L zs zs.length).1]; exact HNL.out
        rw [hw] at ho
        have ho2 := ho
        rw [hln] at ho2
        obtain ⟨a7, c7, e7, h7, _⟩ := lstI_of_owns ho2
        injection e7 with e7 _ e8
        refine ⟨i, 0, size, a6, c6, wiL q L zs zs.length, rfl, rfl, ⟨Or.inl ⟨⟨?_, ?_⟩, rfl, rfl, rfl⟩⟩, HB.out, by rw [← hln]; exact HD.out, by rw [e7, e8]; exact h7⟩
        · rw [← HML.out, ← HNL.out]
          exact hinn
        · rw [← HML.out]
          exact HK.out
  case rest =>
  obtain ⟨ie, z', sz', a7, c7, LL', rfl, rfl, HE7, HB7, HD7, HL7⟩ := hcut
  obtain ⟨e1, e2, e3⟩ := HE4.out.one HE7.out
  subst e1 e2 e3
  have HS7 := hid (HS4.out.below HB7.out)
  rw [← HLN.out] at HD7
  have HER := hid (error_same z' wc (HLD.out.below HS7.out.bel))
  clear HO6 HB6 HD6 HOK0 HE4 HE7 HS4 HB7 HAI HZ HGE HW6 HW4
  have hne := neE
  have hnn := neN
  go_wp2_with fail
  refine HER.out.mono ?_
  rintro e w8 ⟨rfl, hb8⟩
  have HS8 := hid (HS7.out.below hb8)
  have HD8 := hid ((hb8.block C15 (Array.getElem?_eq_some_iff.1 HD7.out).1).trans HD7.out)
  have HL8 : Hid (LstI w8.heap.size w8 a7 c7 LL') := (HL7.out.below hb8).mono hb8.size
  have k0 : w8.cell? ⟨C12, 0, none⟩ = some (.int .i64 sz') := by simp [World.cell?, HS8.out.c12]
  have k1 : w8.cell? ⟨C12, 1, none⟩ = some (.slice a4 ln c4) := by simp [World.cell?, HS8.out.c12]
  have k2 : w8.cell? ⟨C15, 0, none⟩ = some (.int .i64 sz') := by simp [World.cell?, HD8.out]
  have k3 : w8.cell? ⟨C15, 1, none⟩ = some (.slice a7 ln c7) := by simp [World.cell?, HD8.out]
  have HA1 := hid (HAL.out sz' a4 a7 c4 c7 LL' w8 HLL.out HS8.out.l12 HL8.out)
  rw [← HLN.out] at HA1
  clear hb8 HS7 HD7 HL7 HER
  go_wp2_with fail
  refine HA1.out.mono ?_
  rintro e w9 ⟨rfl, hb9⟩
  have HS9 := hid (HS8.out.below hb9)
  have HA2 := hid (HAL.out size a2 aL c2 cL L w9 HN.out.1 HS9.out.l11 (HLI.out w9 HS9.out.bel))
  rw [← HNL.out] at HA2
  clear k0 k1 k2 k3 hb9 HS8 HD8 HL8 HA1
  have k0 : w9.cell? ⟨C11, 0, none⟩ = some (.int .i64 size) := by simp [World.cell?, HS9.out.c11]
  have k1 : w9.cell? ⟨C11, 1, none⟩ = some (.slice a2 n c2) := by simp [World.cell?, HS9.out.c11]
  have k2 : w9.cell? ⟨C6, 0, none⟩ = some (.int .i64 size) := by simp [World.cell?, HS9.out.c6]
  have k3 : w9.cell? ⟨C6, 1, none⟩ = some (.slice aL n cL) := by simp [World.cell?, HS9.out.c6]
  go_wp2_with fail
  refine HA2.out.mono ?_
  rintro e w10 ⟨rfl, hb10⟩
  have HS10 := hid (HS9.out.below hb10)
  have HPA := hid (HPS.out w10 HS10.out.bel)
  clear k0 k1 k2 k3 hb10 HS9 HA2 HAL HLI HPS
  go_wp2_with fail
  refine HPA.out.mono ?_
  intro e w11 he
  obtain ⟨hb11, he⟩ := he
  have HS11 := hid (HS10.out.below hb11)
  have HB11 := hid hb11
  clear HPA
  by_cases h40 : 4000 < TX.size
  · rw [if_pos h40] at he
    subst he
    have HR2 := hid (HRP.out w11)
    simp only [if_pos h40] at HR2
    clear h40 HRP HSZ HWW
    go_wp2_with fail
    refine HR2.out.mono ?_
    rintro e w12 ⟨hb12, rfl⟩
    have HB12 := hid (HS11.out.bel.trans (hb12.mono HS11.out.bel.size))
    clear hb12 HR2
    go_wp2_with fail
    go_ret
    exact ⟨by simp, HB12.out⟩
  · rw [if_neg h40] at he
    have HR2 := hid (HRP.out w11)
    simp only [if_neg h40] at HR2
    clear HRP
    cases r with
    | out => exact he.elim
    | bad er at' =>
      have he' : e = .returned (.tuple #[.pointer none, .int .i64 (at' : Int), .iface 57 (.int .i64 (er : Int))]) := he
      subst he'
      clear h40 HSZ HWW
      go_wp2_with fail
      refine HR2.out.mono ?_
      rintro e w12 ⟨hb12, rfl, her⟩
      have HB12 := hid (HS11.out.bel.trans (hb12.mono HS11.out.bel.size))
      have bz : ((er : Int) != 0) = true := by simp; omega
      clear hb12 HR2 her
      go_wp2_with fail
      go_ret
      exact ⟨by simp, HB12.out⟩
    | ok fs j =>
      obtain ⟨⟨pg, rfl, hPg⟩, hfw, hn4⟩ := he
      obtain ⟨hF, i, g, hgi, hgn, hi⟩ := HWW.out fs j rfl
      have hsz := HSZ.out fs j rfl (by omega)
      have hfd := fnd_mainL hF hgi hgn
      have HPG := hid hPg
      have HFW := hid hfw
      have HGI := hid hgi
      have HFD := hid hfd
      have HI := hid hi
      have HN4 := hid hn4
      have HSZ2 := hid hsz
      clear hPg hfw hF hgi hgn hi hn4 h40 HWW HSZ hsz hfd
      go_wp2_with fail
      refine HR2.out.mono ?_
      rintro e w12 ⟨hb12, a, c, Xs, rfl, hRF⟩
      have HS12 := hid (HS11.out.below hb12)
      have HPG12 := hid (HPG.out.beloL hb12)
      have HRF := hid hRF
      have HBL := hid (hb11.trans (hb12.mono hb11.size))
      have hgl : g.more.length + tsz g.body ≤ 4000 := by have := pwgt_mem (List.mem_of_getElem? HGI.out); unfold fsz at this; have := HSZ2.out; omega
      have HCD := hid (code_any q FB w10.heap.size pg i HQ.out.1 HQ.out.2 fs g w12 HPG12.out HI.out HGI.out HFW.out HSZ2.out HN4.out (by omega) HS12.out.fb)
      have HOK := hid (cd_ok q g.more.length fs HFW.out HSZ2.out (by omega))
      have HCL : Hid (C12 < w11.heap.size) := (Array.getElem?_eq_some_iff.1 HS11.out.c12).1
      obtain ⟨nf, hnf⟩ : ∃ nf, nf = fs.length := ⟨_, rfl⟩
      rw [← hnf]
      have HNF := hid hnf
      obtain ⟨gm, hgm⟩ : ∃ gm, gm = g.more.length := ⟨_, rfl⟩
      obtain ⟨wp, hwp⟩ : ∃ wp, wp = pwgt fs := ⟨_, rfl⟩
      rw [← hgm] at HCD HOK
      have HGM := hid hgm
      have HWP := hid hwp
      have hwp4 : wp ≤ 4000 := by have := HSZ2.out; omega
      have hgm4 : gm ≤ 4000 := by omega
      have hx1 : IntKind.i64.wrap (10 * (wp : Int)) = 10 * (wp : Int) := by rw [IntKind.wrap_i64]; omega
      have hx2 : IntKind.i64.wrap (2 * (gm : Int)) = 2 * (gm : Int) := by rw [IntKind.wrap_i64]; omega
      have hx3 : IntKind.i64.wrap (10 * (wp : Int) + 2 * (gm : Int)) = 10 * (wp : Int) + 2 * (gm : Int) := by rw [IntKind.wrap_i64]; omega
      have hx4 : IntKind.i64.wrap (10 * (wp : Int) + 2 * (gm : Int) + 10) = 10 * (wp : Int) + 2 * (gm : Int) + 10 := by rw [IntKind.wrap_i64]; omega
      have HRE : Hid (∀ (W : World), RFl w11.heap.size W a fs Xs → Calls Tryz.prog 14 #[.slice a nf c] W fun e w' => e = .returned (.int .i64 (wp : Int)) ∧ w' = W) := fun W h => by
        rw [hnf, hwp]
        exact rweight_any w11.heap.size c a fs Xs W h (by have := HN4.out; omega) (by have := HSZ2.out; omega)
      have HFI : Hid (∀ (W : World), RFl w11.heap.size W a fs Xs → Calls Tryz.prog 13 #[.slice a nf c, .string ⟨#[109, 97, 105, 110]⟩] W fun e w' => w' = W ∧ ∃ X am cm, e = .returned (.pointer (some ⟨X, 0, none⟩)) ∧ W.cell? ⟨X, 2, none⟩ = some (.slice am gm cm)) := fun W h => by
        rw [hnf]
        refine (rgfind_any w11.heap.size c a fs Xs ⟨#[109, 97, 105, 110]⟩ W h (by have := HN4.out; omega)).mono ?_
        rintro e w' ⟨rfl, hfe⟩
        have hby : by' (⟨#[109, 97, 105, 110]⟩ : ByteArray) = mainW := by rw [mainS]; simp [by', bs]
        rw [hby] at hfe
        rcases hfe with ⟨hno, _⟩ | ⟨k, X, hk, hX, rfl⟩
        · have := HFD.out; rw [hno] at this; cases this
        have hki : k = i := by have h1 := HFD.out; rw [hk] at h1; injection h1
        subst hki
        obtain ⟨_, am, cm, aw, cw, pb, _, hXh, _⟩ := h.at' k g X HGI.out hX
        exact ⟨rfl, X, am, cm, rfl, by rw [hgm]; simp [World.cell?, hXh]⟩
      have HLE : Hid ((cdL q gm fs).L.length ≤ 2 * gm + 3 + 5 * wp) := by have := HOK.out.l1; unfold Hid; omega
      have HL0 : Hid (2 * gm + 3 ≤ (cdL q gm fs).L.length) := HOK.out.l0
      clear hb11 hb12 HR2 hRF HPG HS11 HB11 hnf hgm hwp hgl HFD HGI HFW HI
      go_wp2_with fail
      refine HCD.out.mono ?_
      intro e w13 he
      obtain ⟨hb13, hcd⟩ := he
      have HS13 := hid (HS12.out.below hb13)
      have HRF13 : Hid (RFl w11.heap.size w13 a fs Xs) := HRF.out.below hb13
      have z0 : w13.frozen? ⟨C12, 0, none⟩ = false := by simp [World.frozen?, HS13.out.c12]
      have z1 : w13.frozen? ⟨C12, 1, none⟩ = false := by simp [World.frozen?, HS13.out.c12]
      have y0 : w13.cell? ⟨C12, 0, none⟩ = some (.int .i64 sz') := by simp [World.cell?, HS13.out.c12]
      have y1 : w13.cell? ⟨C12, 1, none⟩ = some (.slice a4 ln c4) := by simp [World.cell?, HS13.out.c12]
      have HST : Hid (∀ v0 v1 : Value, RFl w11.heap.size ((w13.setCell ⟨C12, 0, none⟩ v0).setCell ⟨C12, 1, none⟩ v1) a fs Xs) := fun v0 v1 => HRF13.out.keep (Nat.le_refl _) (fun b hb _ => by
        have := HCL.out
        rw [Below.heap_setCell _ _ _ _ (by show b ≠ C12; omega), Below.heap_setCell _ _ _ _ (by show b ≠ C12; omega)])
      clear HS12 HRF HCD
      by_cases hbig : 4096 < (cdL q gm fs).L.length ∨ q < (cdL q gm fs).L.length
      · rw [if_pos hbig] at hcd
        subst hcd
        obtain ⟨W14, hW14⟩ : ∃ W, W = (w13.setCell ⟨C12, 0, none⟩ (.int .i64 0)).setCell ⟨C12, 1, none⟩ (.slice none 0 0) := ⟨_, rfl⟩
        have HP14 : Hid (W14.heap[C12]? = some (.cells #[.int .i64 0, .slice none 0 0] 24 (0, 0))) := by unfold Hid; rw [hW14]; exact put2_heap HS13.out.c12 _ _
        have HB14 : Hid (Below w.heap.size w W14) := by unfold Hid; rw [hW14]; exact put2_below HS13.out.bel HCW.out _ _
        have HF14 : Hid (RFl w11.heap.size W14 a fs Xs) := by unfold Hid; rw [hW14]; exact HST.out _ _
        have HW14 := hid hW14
        have HBG : Hid (4096 < 2 * gm + 3 + 5 * wp ∨ q < 2 * gm + 3 + 5 * wp) := by have := HLE.out; unfold Hid; omega
        clear hb13 hbig hW14 HS13 HRF13 HST
        go_wp2_with (rw [← HW14.out])
        refine (HFI.out W14 HF14.out).mono ?_
        rintro e w14 ⟨hw, X, am, cm, rfl, hX⟩
        subst hw
        clear HFI z0 z1 y0 y1
        go_wp2_with fail
        refine (HRE.out _ HF14.out).mono ?_
        rintro e w15 ⟨rfl, hw⟩
        subst hw
        clear HRE hX
        have HEH := hid (error_hit 9 9 w15 (HLD.out.below HB14.out))
        have be : ((9 : Int) == 9) = true := rfl
        rw [be] at HEH
        clear be
        go_wp2_with fail
        refine HEH.out.mono ?_
        rintro e w16 ⟨rfl, hb16⟩
        have HB16 := hid (HB14.out.trans (hb16.mono HB14.out.size))
        have hp16 := (hb16.block C12 (Array.getElem?_eq_some_iff.1 HP14.out).1).trans HP14.out
        have k0 : w16.cell? ⟨C12, 0, none⟩ = some (.int .i64 0) := by simp [World.cell?, hp16]
        have k1 : w16.cell? ⟨C12, 1, none⟩ = some (.slice none 0 0) := by simp [World.cell?, hp16]
        clear hp16 hb16 HEH
        by_cases hk : (4096 : Int) < 10 * (wp : Int) + 2 * (gm : Int) + 10
        · go_wp2_with fail
          go_ret
          exact ⟨by simp, HB16.out⟩
        · have hk2 : (q : Int) < 10 * (wp : Int) + 2 * (gm : Int) + 10 := by have := HBG.out; omega
          go_wp2_with fail
          go_ret
          exact ⟨by simp, HB16.out⟩
      · rw [if_neg hbig] at hcd
        obtain ⟨ad, cd, rfl, how⟩ := hcd
        obtain ⟨ll, hll⟩ : ∃ ll, ll = (cdL q gm fs).L.length := ⟨_, rfl⟩
        rw [← hll] at how ⊢
        have hl4 : ll ≤ 4096 ∧ ll ≤ q ∧ gm ≤ ll := by have := HL0.out; omega
        have HOW := hid how
        have HLL2 := hid hll
        obtain ⟨W14, hW14⟩ : ∃ W, W = (w13.setCell ⟨C12, 0, none⟩ (.int .i64 ((gm : Int) + 1))).setCell ⟨C12, 1, none⟩ (.slice ad ll cd) := ⟨_, rfl⟩
        have HP14 : Hid (W14.heap[C12]? = some (.cells #[.int .i64 ((gm : Int) + 1), .slice ad ll cd] 24 (0, 0))) := by unfold Hid; rw [hW14]; exact put2_heap HS13.out.c12 _ _
        have HB14 : Hid (Below w.heap.size w W14) := by unfold Hid; rw [hW14]; exact put2_below HS13.out.bel HCW.out _ _
        have HF14 : Hid (RFl w11.heap.size W14 a fs Xs) := by unfold Hid; rw [hW14]; exact HST.out _ _
        have HO14 : Hid (W14.ownsRow w12.heap.size 35 4 (.slice ad ll cd) ll (insV (cdL q gm fs).L)) := by
          have hne : (Value.slice ad ll cd).ownBlock = none ∨ (Value.slice ad ll cd).ownBlock ≠ some C12 := own_ne HOW.out HS13.out.c12 (by decide)
          unfold Hid
          rw [hW14]
          exact (HOW.out.kept (gb_one w13 C12 0 _) hne).kept (gb_one _ C12 1 _) hne
        have HW14 := hid hW14
        have q1 : ¬ (4096 : Int) < (ll : Int) := by omega
        have q2 : ¬ q < ll := by omega
        have q3 : ¬ ll < gm := by omega
        have b1 : decide ((4096 : Int) < (ll : Int)) = false := by simp; omega
        have b2 : decide (q < ll) = false := by simp; omega
        have b3 : decide (ll < gm) = false := by simp; omega
        have HL4 := hid hl4
        clear hb13 hbig hW14 HS13 HRF13 HST how hll hl4 HOW
        go_wp2_with (rw [← HW14.out])
        refine (HFI.out W14 HF14.out).mono ?_
        rintro e w14 ⟨hw, X, am, cm, rfl, hX⟩
        subst hw
        clear HFI z0 z1 y0 y1
        have k1 : w14.cell? ⟨C12, 1, none⟩ = some (.slice ad ll cd) := by simp [World.cell?, HP14.out]
        go_wp2_with fail
        refine (HRE.out _ HF14.out).mono ?_
        rintro e w15 ⟨rfl, hw⟩
        subst hw
        clear HRE hX
        go_wp2_with fail
        clear k1
        go_loopw [28, 29] (fun iv _ wr => ∃ k : Nat, k ≤ gm ∧ iv = .int .i64 (k : Int) ∧ Hid (Below w15.heap.size w15 wr)) (fun iv _ _ => gm - (intOf iv).toNat)
        case atStart => exact ⟨0, Nat.zero_le _, rfl, Below.refl _ _⟩
        case round =>
          obtain ⟨k, hkg, rfl, hbel⟩ := hrel
          by_cases hlt : k < gm
          · have hlt2 : (k : Int) < (gm : Int) := by omega
            have hks : IntKind.i64.wrap ((k : Int) + 1) = (k : Int) + 1 := by rw [IntKind.wrap_i64]; omega
            have hkl : k < ll := by have := HL4.out.2.2; omega
            have hkl2 : (k : Int) < (ll : Int) := by omega
            obtain ⟨a', c', hsl, hge⟩ := own_slice HO14.out
            have hs1 : ad = a' := by injection hsl
            obtain ⟨gb, hgb, _⟩ := hge (by omega)
            rw [hgb] at hs1
            subst hs1
            obtain ⟨i0, i1, i2, i3⟩ := insV_at (cdL q gm fs).L k (by rw [← HLL2.out]; exact hkl)
            have hia : insat (cdL q gm fs).L k = insP q 5 (k : Int) 0 0 := by simp [insat, List.getD_eq_getElem?_getD, HOK.out.at hlt]
            rw [hia] at i0 i1 i2 i3
            have hkq : (k : Int) % (q : Int) = (k : Int) := Int.emod_eq_of_lt (by omega) (by have := HL4.out.2.1; omega)
            have h0q : (0 : Int) % (q : Int) = 0 := Int.zero_emod _
            simp only [insP] at i0 i1 i2 i3
            rw [hkq] at i1
            rw [h0q] at i2 i3
            have g0 := (HO14.out.cellAt (k * 4) (by omega)).trans i0
            have g1 := (HO14.out.cellAt (k * 4 + 1) (by omega)).trans i1
            have g2 := (HO14.out.cellAt (k * 4 + 2) (by omega)).trans i2
            have g3 := (HO14.out.cellAt (k * 4 + 3) (by omega)).trans i3
            have p1 : w15.cell? ⟨C12, 1, none⟩ = some (.slice (some ⟨gb, 0, none⟩) ll cd) := by simp [World.cell?, HP14.out]
            obtain ⟨B29, hB29⟩ : ∃ B, B = wr.heap.size := ⟨_, rfl⟩
            obtain ⟨W1, hW1⟩ : ∃ W, W = wr.alloc (.cells #[.int .i64 5, .int .i64 (k : Int), .int .i64 0, .int .i64 0] 35) := ⟨_, rfl⟩
            have hb1 : Below wr.heap.size wr W1 := by rw [hW1]; exact (Below.refl _ _).alloc (Nat.le_refl _) _
            have hbw := hbel.out.trans (hb1.mono hbel.out.size)
            have hn1 : W1.heap[B29]? = some (.cells #[.int .i64 5, .int .i64 (k : Int), .int .i64 0, .int .i64 0] 35 (0, 0)) := by rw [hW1, hB29]; exact heap_alloc_new wr _
            have HSX : Hid ((fun W => W.cell? ⟨C12, 1, none⟩ = some (.slice (some ⟨gb, 0, none⟩) ll cd) ∧ W.cell? ⟨gb, k * 4, none⟩ = some (.int .i64 5) ∧ W.cell? ⟨gb, k * 4 + 1, none⟩ = some (.int .i64 (k : Int)) ∧ W.cell? ⟨gb, k * 4 + 2, none⟩ = some (.int .i64 0) ∧ W.cell? ⟨gb, k * 4 + 3, none⟩ = some (.int .i64 0) ∧ W.cell? ⟨B29, 0, none⟩ = some (.int .i64 5) ∧ W.cell? ⟨B29, 1, none⟩ = some (.int .i64 (k : Int)) ∧ W.cell? ⟨B29, 2, none⟩ = some (.int .i64 0) ∧ W.cell? ⟨B29, 3, none⟩ = some (.int .i64 0)) W1) := by
              have hc : ∀ (x j : Nat) (v : Value), w15.cell? ⟨x, j, none⟩ = some v → W1.cell? ⟨x, j, none⟩ = some v := fun x j v h => (hbw.cell (p := ⟨x, j, none⟩) (World.block_lt_of_cell? _ _ h)).trans h
              exact ⟨hc _ _ _ p1, hc _ _ _ g0, hc _ _ _ g1, hc _ _ _ g2, hc _ _ _ g3, by simp [World.cell?, hn1], by simp [World.cell?, hn1], by simp [World.cell?, hn1], by simp [World.cell?, hn1]⟩
            have HBW := hid hbw
            have HW1 := hid hW1
            have HB29 := hid hB29
            have hni := fun w => neq_ins 5 (k : Int) 0 0 w
            clear hgb hge i0 i1 i2 i3 hia hkq h0q g0 g1 g2 g3 p1 hb1 hbw hn1 hW1 hB29 hsl
            go_wp2_with (rw [← HW1.out, ← HB29.out])
            refine wp_region_held_drew (S := fun W => W.cell? ⟨C12, 1, none⟩ = some (.slice (some ⟨gb, 0, none⟩) ll cd) ∧ W.cell? ⟨gb, k * 4, none⟩ = some (.int .i64 5) ∧ W.cell? ⟨gb, k * 4 + 1, none⟩ = some (.int .i64 (k : Int)) ∧ W.cell? ⟨gb, k * 4 + 2, none⟩ = some (.int .i64 0) ∧ W.cell? ⟨gb, k * 4 + 3, none⟩ = some (.int .i64 0) ∧ W.cell? ⟨B29, 0, none⟩ = some (.int .i64 5) ∧ W.cell? ⟨B29, 1, none⟩ = some (.int .i64 (k : Int)) ∧ W.cell? ⟨B29, 2, none⟩ = some (.int .i64 0) ∧ W.cell? ⟨B29, 3, none⟩ = some (.int .i64 0)) hmx (HSX.out) (fun hHeld => ?_)
            refine tkA 0 (.pointer (some ⟨C12, 1, none⟩)) ?_
            simp only [putX]
            refine tkA 1 (.slice (some ⟨gb, 0, none⟩) ll cd) ?_
            simp only [putX]
            refine tkA 2 (.int .i64 (k : Int)) ?_
            simp only [putX]
            refine tkA 3 (.pointer (some ⟨gb, k * 4, none⟩)) ?_
            simp only [putX]
            refine tkA 4 (.agg #[.int .i64 5, .int .i64 (k : Int), .int .i64 0, .int .i64 0]) ?_
            simp only [putX]
            refine tkA 5 (.agg #[.int .i64 5, .int .i64 (k : Int), .int .i64 0, .int .i64 0]) ?_
            simp only [putX]
            refine tkA 6 (.bool false) ?_
            simp only [putX]
            refine wpAnyH_done (by kernel_rfl) ?_ _
            go_wp2_with fail
            go_roundw
            case rel => exact ⟨k + 1, by omega, by go_num, below_drewN HBW.out 1⟩
            case measure => simp [intOf]; omega
          · obtain rfl : k = gm := by omega
            have hlt2 : ¬ (k : Int) < (k : Int) := by omega
            go_wp2_with fail
            go_ret
            exact ⟨by simp, HB14.out.trans (hbel.out.mono HB14.out.size)⟩

set_option maxRecDepth 100000 in
theorem lfirst_any (p size : Int) (aL : Option Addr) (cL : Nat) (L : List InsZ) (aA : Option Addr) (cA : Nat) (zs : List Int) (TX : ByteArray) (w : World) (hL : Laid w) (hEv : EvW w) (hT : TX.size ≤ 281474976710656) (hp1 : -9223372036854775808 ≤ p) (hp2 : p ≤ 9223372036854775807) (hn : L.length ≤ 4398046511104) (hm : zs.length ≤ 17592186044416) (hl : LstI w.heap.size w aL cL L) (hA : Lst w.heap.size w aA cA zs) (hz : ∀ k, k < zs.length → I64z (zat zs k)) :
    Calls Tryz.prog 3 #[.int .i64 p, .string TX, .agg #[.int .i64 size, .slice aL L.length cL], .slice aA zs.length cA] w fun e w' => e = .returned (.bool true) ∧ Below w.heap.size w w' := by
  by_cases hok : okPrime p
  · obtain ⟨q, rfl⟩ := Int.eq_ofNat_of_zero_le (show 0 ≤ p by have := hok.1; omega)
    obtain ⟨h3, h4, hpr⟩ := hok
    rw [Int.toNat_natCast] at hpr
    exact lfirst_yes q size aL cL L aA cA zs TX w hL hEv hT (by omega) (by omega) hpr hn hm hl hA hz
  · obtain ⟨W0, hW0⟩ : ∃ W0, W0 = w.alloc (.cells #[.int .i64 size, .slice aL L.length cL] 24) := ⟨_, rfl⟩
    have hb0 : Below w.heap.size w W0 := by rw [hW0]; exact (Below.refl _ _).alloc (Nat.le_refl _) _
    have HF := hid (field_no p W0 (hL.below hb0) hok hp1 hp2)
    have HB0 := hid hb0
    obtain ⟨nL, hnL⟩ : ∃ nL, nL = L.length := ⟨_, rfl⟩
    obtain ⟨mL, hmL⟩ : ∃ mL, mL = zs.length := ⟨_, rfl⟩
    rw [← hnL] at hW0 ⊢
    rw [← hmL]
    clear hb0 hn hl hL hnL hmL hm hA hz hT hEv
    go_enter Tryz.func3, Tryz.ntmps3
    go_wp2_with fail
    rw [← hW0]
    refine HF.out.mono ?_
    rintro e w1 ⟨rfl, hb1⟩
    have HB1 := hid (HB0.out.trans (hb1.mono HB0.out.size))
    clear hb1 HF HB0 hW0
    go_wp2_with fail
    go_ret
    exact ⟨rfl, HB1.out⟩

end Go.Proofs.YtmmgkdcojkmlcaaGreatDoor
