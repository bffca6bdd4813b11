/- Package source: a part shown. Package source: Parse. Package source: a function of a name. Package source: the names of the functions. A region that draws its order, walked by hand: what is read is taken first. A region that draws its order, walked by hand: an operation that is not wanted is passed by. A region that draws its order, walked by hand: short steps. Package source: a function's names, a function shown, Show. -/
import Derived.Test.YtmmgkdcojkmlcaaGreatDoorLFAM
import Derived.OwnWalk
import Derived.Test.YtmmgkdcojkmlcaaGreatDoorLFAH
import Derived.Deep.OwnRows
import Derived.Test.YtmmgkdcojkmlcaaGreatDoorFld
import Derived.OrdersHeld
import Derived.Deep.RegionHeld3
namespace Go.Proofs.YtmmgkdcojkmlcaaGreatDoor
open Go.RowKit

theorem ShPs_of {lo : Nat} {w : World} {g : Nat} {cs : Array Value} {f : Nat × Nat} (hg : lo ≤ g) (hc : w.heap[g]? = some (.cells cs 93 f)) : ∀ (ts : List Tr) (i : Nat) (F : Nat → List Value), (∀ k t, ts[k]? = some t → (∀ (j : Nat) v, (F (i + k))[j]? = some v → cs[(i + k) * 4 + j]? = some v) ∧ ShP lo w t (F (i + k))) → ShPs lo w (some ⟨g, 0, none⟩) ts i
  | [], _, _, _ => trivial
  | t :: r, i, F, h => by
    have h0 := h 0 t rfl
    rw [Nat.add_zero] at h0
    exact ⟨⟨g, cs, f, F i, rfl, hg, hc, h0.1, h0.2⟩, ShPs_of hg hc r (i + 1) F fun k t hk => by
      have := h (k + 1) t hk
      rw [show i + (k + 1) = i + 1 + k by omega] at this
      exact this⟩
theorem ShP.form {lo : Nat} {w : World} {t : Tr} {vs : List Value} (h : ShP lo w t vs) : ∃ (k : Int) (s : ByteArray) (n : Int) (a : Option Addr) (l c : Nat), vs = [.int .i64 k, .string s, .int .i64 n, .slice a l c] := by
  cases t with
  | node k nm a n kids =>
    obtain ⟨a, c, rfl, _⟩ := h
    exact ⟨_, _, _, _, _, _, rfl⟩
theorem ShP.len {lo : Nat} {w : World} {t : Tr} {vs : List Value} (h : ShP lo w t vs) : vs.length = 4 := by
  obtain ⟨v0, v1, v2, v3, rfl⟩ := h.four
  rfl
/-- what stands in the round of shown -/
structure ShR (w W : World) (P n i : Nat) (kids : List Tr) (F : Nat → List Value) : Prop where
  bel : Below w.heap.size w W
  row : R4 W P n i F
  kid : ∀ k t, k < i → kids[k]? = some t → ShP (P + 1) W t (F k)
  hP : w.heap.size ≤ P

theorem bl_set {N P i : Nat} {w W : World} (h : Below N w W) (hP : N ≤ P) (v : Value) : Below N w (W.setCell ⟨P, i, none⟩ v) :=
  ⟨h.os, h.tape, h.output, by simpa [World.setCell] using h.size, fun j hj => (Below.heap_setCell _ _ _ _ (by show j ≠ P; omega)).trans (h.block j hj)⟩
theorem bl_row {N P : Nat} {w W : World} (h : Below N w W) (hP : N ≤ P) (cs : Array Value) : Below N w (W.setRow P cs) :=
  ⟨h.os, h.tape, h.output, by simpa [World.setRow, World.putObj] using h.size, fun j hj => (setRow_other _ _ _ _ (by omega)).trans (h.block j hj)⟩
theorem R4.cells {w : World} {P n i : Nat} {F : Nat → List Value} (h : R4 w P n i F) {k : Nat} (hk : k < n) (j : Nat) (hj : j < 4) : ∃ u, w.cell? ⟨P, k * 4 + j, none⟩ = some u := by
  obtain ⟨cs, h1, h2, _⟩ := h
  have : k * 4 + j < cs.size := by omega
  exact ⟨cs[k * 4 + j], by simp [World.cell?, h1, this]⟩
theorem R4.frozen {w : World} {P n i : Nat} {F : Nat → List Value} (h : R4 w P n i F) (o : Nat) : w.frozen? ⟨P, o, none⟩ = false := by
  obtain ⟨cs, h1, _⟩ := h
  simp [World.frozen?, h1]

set_option maxRecDepth 100000 in
set_option maxHeartbeats 4000000 in
theorem shown_any : ∀ (N : Nat) (t : Tr) (v : Value) (w : World), tsz t ≤ N → TW t → PT 0 w t v →
    Calls Tryz.prog 69 #[v] w fun e w' => ∃ vs : List Value, e = .returned (.agg vs.toArray) ∧ ShP w.heap.size w' t vs ∧ Below w.heap.size w w'
  | 0, t, _, _, hN, _, _ => absurd (tsz_ps t) (by omega)
  | N + 1, .node k nm at' num kids, v, w, hN, hT, hP => by
    have IH := hid (shown_any N)
    rw [tsz] at hN
    obtain ⟨hS, hTs⟩ := hT
    obtain ⟨b, a, c, rfl, _, hb, hk⟩ := hP
    have hm : kids.length ≤ 4000 := by rcases hS with h | h | h | h | h | h | h <;> omega
    obtain ⟨n, hn⟩ : ∃ n, n = kids.length := ⟨_, rfl⟩
    obtain ⟨R, hR⟩ : ∃ R, R = w.heap.size := ⟨_, rfl⟩
    obtain ⟨W0, hW0⟩ : ∃ W0, W0 = w.alloc (.cells #[.int .i64 0, .string ⟨#[]⟩, .int .i64 0, .slice none 0 0] 93) := ⟨_, rfl⟩
    rw [← hn] at hb hm
    have hbw : b < w.heap.size := (Array.getElem?_eq_some_iff.1 hb).1
    have HN := hid hn
    have HNN := hid hN
    have HTs := hid hTs
    have HK := hid hk
    have hB0 : Below w.heap.size w W0 := by rw [hW0]; exact (Below.refl _ _).alloc (Nat.le_refl _) _
    have hr0 : W0.heap[R]? = some (.cells #[.int .i64 0, .string ⟨#[]⟩, .int .i64 0, .slice none 0 0] 93 (0, 0)) := by rw [hW0, hR]; exact heap_alloc_new w _
    have hs0 : W0.heap.size = R + 1 := by rw [hW0, hR]; simp
    have x0 : w.cell? ⟨b, 4, none⟩ = some (.slice a n c) := by simp [World.cell?, hb]
    have HB0 := hid hB0
    have HR0 := hid hr0
    have HS0 := hid hs0
    have HW0 := hid hW0
    have HRR := hid hR
    have HBB := hid hb
    have HBW := hid hbw
    obtain ⟨i0, hi, hz0, hz1, hz2⟩ := info_parts (show (Tryz.prog.info? 93).map (fun i => (i.zero, i.size, i.bytes)) = some (some (.agg #[.int .i64 0, .string ⟨#[]⟩, .int .i64 0, .slice none 0 0]), 4, 56) by kernel_rfl)
    clear hN hS hTs hk hn hR hB0 hr0 hs0 hW0 hb
    go_enter Tryz.func69, Tryz.ntmps69
    go_wp2_with (rw [← HW0.out, ← HRR.out]; refine wpList_make_full _ rfl _ _ _ rfl W0.heap.size 93 i0 _ 4 Tryz.underlying91 hi hz0 hz1 .i64 .i64 _ _ n rfl rfl rfl rfl (by rw [hz2]; omega) (by unfold maxLen; omega) (Nat.le_refl _) ?_)
    intro W1 hown hgr
    obtain ⟨P, hPP⟩ : ∃ P, P = W0.heap.size := ⟨_, rfl⟩
    have hb1 : Below W0.heap.size W0 W1 := ⟨hgr.os, hgr.tape, hgr.output, hgr.size, fun k hk => hgr.block k hk (by simp)⟩
    have hrow : R4 W1 P n 0 (fun _ => []) := by
      rcases hown.2 with ⟨h0, _⟩ | ⟨g, cap, cur, hsl, hg, hc, h1, h2, h3, h4⟩
      · cases h0
      · injection hsl with e1 e2 e3
        injection e1 with e1
        injection e1 with e1
        subst e3
        rw [← e1, ← hPP] at hc
        exact ⟨cur, hc, h3, fun k hk => absurd hk (Nat.not_lt_zero _)⟩
    have HP1 : Hid (R + 1 = P) := by unfold Hid; rw [hPP, HS0.out]
    have HSR : Hid (ShR w W1 P n 0 kids (fun _ => [])) := ⟨HB0.out.trans (hb1.mono HB0.out.size), hrow, fun k t hk => absurd hk (Nat.not_lt_zero _), by rw [hPP]; exact HB0.out.size⟩
    have HR1 : Hid (W1.heap[R]? = some (.cells #[.int .i64 0, .string ⟨#[]⟩, .int .i64 0, .slice none 0 0] 93 (0, 0))) := (hb1.block R (by rw [HS0.out]; omega)).trans HR0.out
    rw [← hPP]
    have x1 : W1.cell? ⟨b, 4, none⟩ = some (.slice a n c) := (HSR.out.bel.cell (p := ⟨b, 4, none⟩) hbw).trans x0
    clear hown hgr hb1 hrow x0 hPP HR0 HB0 HW0 HS0 hi hz0 hz1 hz2
    go_wp2_with fail
    clear x1
    go_loopw [17] (fun iv wr => ∃ (i : Nat) (F : Nat → List Value), i ≤ n ∧ iv = .int .i64 (i : Int) ∧ Hid (ShR w wr P n i kids F) ∧ Hid (wr.heap[R]? = some (.cells #[.int .i64 0, .string ⟨#[]⟩, .int .i64 0, .slice none 0 0] 93 (0, 0)))) (fun iv _ => n - (intOf iv).toNat)
    case atStart => exact ⟨0, _, Nat.zero_le _, rfl, HSR, HR1⟩
    case round =>
      obtain ⟨i, F, hin, rfl, HI, HRi⟩ := hrel
      clear HSR HR1
      by_cases hlt : i < n
      · have hlt2 : (i : Int) < (n : Int) := by omega
        have hks : IntKind.i64.wrap ((i : Int) + 1) = (i : Int) + 1 := by rw [IntKind.wrap_i64]; omega
        obtain ⟨t, ht⟩ : ∃ t, kids[i]? = some t := ⟨_, List.getElem?_eq_getElem (by rw [← HN.out]; exact hlt)⟩
        obtain ⟨g, tv, rfl, _, hgc, hgt⟩ := PTBs.at HK.out ht
        rw [Nat.zero_add] at hgc
        have y0 : wr.cell? ⟨g, i, none⟩ = some tv := (HI.out.bel.cell (p := ⟨g, i, none⟩) (World.block_lt_of_cell? _ _ hgc)).trans hgc
        have hts : tsz t ≤ N := by have := kid_lt kids i t ht; have := HNN.out; omega
        have HC := hid (IH.out t tv wr hts (TWs.at HTs.out ht) (PT.below hgt HI.out.bel))
        have HT := hid ht
        clear hgc hgt ht hts
        go_wp2_with fail
        refine HC.out.mono ?_
        rintro e w2 ⟨vs, rfl, hvs, hb2⟩
        obtain ⟨sk, ss, sn, sa, sl, sc, rfl⟩ := hvs.form
        have hR2 : R4 w2 P n i F := HI.out.row.block (hb2.block P HI.out.row.lt)
        obtain ⟨F2, hF2⟩ : ∃ F2, F2 = (fun k => if k = i then [.int .i64 sk, .string ss, .int .i64 sn, .slice sa sl sc] else F k) := ⟨_, rfl⟩
        have hR3 : R4 w2 P n i F2 := by
          obtain ⟨cs, h1, h2, h3⟩ := hR2
          exact ⟨cs, h1, h2, fun k hk j hj v hv => h3 k hk j hj v (by rw [hF2] at hv; simpa [show ¬ k = i by omega] using hv)⟩
        have hR4 := hR3.set hlt (.int .i64 sk) (.string ss) (.int .i64 sn) (.slice sa sl sc) (by rw [hF2]; simp)
        have hPw : w.heap.size ≤ P := HI.out.hP
        have hPr : P < wr.heap.size := HI.out.row.lt
        have hbl : Below w.heap.size w w2 := HI.out.bel.trans (hb2.mono HI.out.bel.size)
        obtain ⟨u0, y1⟩ := hR2.cells hlt 0 (by omega)
        obtain ⟨u1, y2⟩ := hR2.cells hlt 1 (by omega)
        obtain ⟨u2, y3⟩ := hR2.cells hlt 2 (by omega)
        obtain ⟨u3, y4⟩ := hR2.cells hlt 3 (by omega)
        have z1 := hR2.frozen (i * 4)
        have z2 := hR2.frozen (i * 4 + 1)
        have z3 := hR2.frozen (i * 4 + 2)
        have z4 := hR2.frozen (i * 4 + 3)
        rw [Nat.add_zero] at y1
        obtain ⟨W3, hW3⟩ : ∃ W3, W3 = ((((w2.setCell ⟨P, i * 4, none⟩ (.int .i64 sk)).setCell ⟨P, i * 4 + 1, none⟩ (.string ss)).setCell ⟨P, i * 4 + 2, none⟩ (.int .i64 sn)).setCell ⟨P, i * 4 + 3, none⟩ (.slice sa sl sc)) := ⟨_, rfl⟩
        have ho : ∀ k, k ≠ P → W3.heap[k]? = w2.heap[k]? := fun k hk => by
          rw [hW3, Below.heap_setCell _ _ _ _ hk, Below.heap_setCell _ _ _ _ hk, Below.heap_setCell _ _ _ _ hk, Below.heap_setCell _ _ _ _ hk]
        have HI3 : Hid (ShR w W3 P n (i + 1) kids F2) := ⟨by rw [hW3]; exact bl_set (bl_set (bl_set (bl_set hbl hPw (.int .i64 sk)) hPw (.string ss)) hPw (.int .i64 sn)) hPw (.slice sa sl sc), by rw [hW3]; exact hR4, fun k t' hk ht' => by
          rcases Nat.lt_or_ge k i with hki | hki
          · have h1 := (HI.out.kid k t' hki ht').below hb2
            rw [hF2]
            simp only [show ¬ k = i by omega, if_false]
            exact ShP.keep (Nat.le_refl _) (fun g _ _ hg _ => ho g (by omega)) t' _ h1
          · obtain rfl : k = i := by omega
            rw [HT.out] at ht'
            injection ht' with ht'
            subst ht'
            rw [hF2]
            simp only [if_true]
            exact ShP.keep (by omega) (fun g _ _ hg _ => ho g (by omega)) t _ hvs, hPw⟩
        have HR3 : Hid (W3.heap[R]? = some (.cells #[.int .i64 0, .string ⟨#[]⟩, .int .i64 0, .slice none 0 0] 93 (0, 0))) := (ho R (by have := HP1.out; omega)).trans ((hb2.block R (by have := HP1.out; omega)).trans HRi.out)
        have HW3 := hid hW3
        clear hvs hb2 hR2 hF2 hR3 hR4 hbl ho hW3 HC HI HRi y0
        go_wp2_with fail
        go_roundw
        case rel => exact ⟨i + 1, F2, by omega, by go_num, by rw [HW3.out] at HI3; exact HI3, by rw [HW3.out] at HR3; exact HR3⟩
        case measure => simp [intOf]; omega
      · obtain rfl : i = n := by omega
        have hlt2 : ¬ (i : Int) < (i : Int) := by omega
        have hmx : Tryz.prog.follows .mixedOrders = true := by kernel_rfl
        have hbb : wr.heap[b]? = some (.cells #[.int .i64 (k : Int), .string (bs nm), .int .i64 (at' : Int), .int .i64 (num : Int), .slice a i c] 190 (0, 0)) := (HI.out.bel.block b hbw).trans HBB.out
        have x0 : wr.cell? ⟨b, 0, none⟩ = some (.int .i64 (k : Int)) := by simp [World.cell?, hbb]
        have x1 : wr.cell? ⟨b, 1, none⟩ = some (.string (bs nm)) := by simp [World.cell?, hbb]
        have x3 : wr.cell? ⟨b, 3, none⟩ = some (.int .i64 (num : Int)) := by simp [World.cell?, hbb]
        clear hbb
        go_wp2_with fail
        go_still_tail 15, hmx
        clear x0 x1 x3
        go_wp2_with (refine wpList_store_row rfl 93 _ _ rfl R #[.int .i64 (k : Int), .string (bs nm), .int .i64 (num : Int), .slice (some ⟨P, 0, none⟩) i i] rfl rfl _ _ HRi.out (by kernel_rfl) rfl (by simp [Value.oneCell']) ?_)
        refine bodyPost_ret (results_cell_row rfl _ _ R 93 #[.int .i64 (k : Int), .string (bs nm), .int .i64 (num : Int), .slice (some ⟨P, 0, none⟩) i i] (0, 0) _ rfl (setRow_heap _ _ _ _ _ _ HRi.out) Tryz.underlying93 rfl (by kernel_rfl)) rfl ?_
        have hRP : P ≠ R := by have := HP1.out; omega
        have ho : ∀ j, j ≠ R → (wr.drew.setRow R #[.int .i64 (k : Int), .string (bs nm), .int .i64 (num : Int), .slice (some ⟨P, 0, none⟩) i i]).heap[j]? = wr.heap[j]? := fun j hj => setRow_other _ _ _ _ hj
        refine ⟨[.int .i64 (k : Int), .string (bs nm), .int .i64 (num : Int), .slice (some ⟨P, 0, none⟩) i i], rfl, ⟨some ⟨P, 0, none⟩, i, by rw [← HN.out], ?_⟩, bl_row (show Below w.heap.size w wr.drew from below_drewN HI.out.bel 1) (by rw [HRR.out]; exact Nat.le_refl _) _⟩
        obtain ⟨cs, h1, h2, h3⟩ := HI.out.row
        refine ShPs_of HI.out.hP ((ho P hRP).trans h1) kids 0 F (fun k' t' hk' => ?_)
        have hki : k' < i := by rw [HN.out]; exact (List.getElem?_eq_some_iff.1 hk').1
        have hkk := HI.out.kid k' t' hki hk'
        rw [Nat.zero_add]
        refine ⟨fun j v hv => h3 k' hki j (by have := hkk.len; have := (List.getElem?_eq_some_iff.1 hv).1; omega) v hv, ?_⟩
        exact ShP.keep (by have := HI.out.hP; omega) (fun g _ _ hg _ => ho g (by have := HP1.out; omega)) t' _ hkk

end Go.Proofs.YtmmgkdcojkmlcaaGreatDoor

namespace Go.Proofs.YtmmgkdcojkmlcaaGreatDoor
open Go.RowKit

/-- the numbers of the first k functions, by their names -/
def nmM (fs : List FnT) : Nat → List UInt8 → Option Int
  | 0 => fun _ => none
  | k + 1 => match fs[k]? with
    | some g => updI (nmM fs k) g.name (k : Int)
    | none => nmM fs k
/-- a program in memory, from a block on -/
def PgAt (lo : Nat) (w : World) (p : Nat) (fs : List FnT) : Prop := ∃ a c B, w.heap[p]? = some (.cells #[.slice a fs.length c, .map (some B)] 74 (0, 0)) ∧ lo ≤ p ∧ lo ≤ B ∧ (fs.length ≤ c ∧ c ≤ maxLen) ∧ FnR lo w a fs ∧ MapI nmk (fun x => x.length ≤ 4000) w B (nmM fs fs.length)
/-- how Parse ends -/
def PaR (w : World) (len : Nat) (r : Res (List FnT)) (e : Ending) (w' : World) : Prop := Below w.heap.size w w' ∧
  if 4000 < len then e = .returned (.tuple #[.pointer none, .int .i64 0, .iface 57 (.int .i64 9)])
  else match r with
  | .ok fs _ => (∃ p, e = .returned (.tuple #[.pointer (some ⟨p, 0, none⟩), .int .i64 0, .nilIface]) ∧ PgAt w.heap.size w' p fs) ∧ (∀ g, g ∈ fs → FW g) ∧ fs.length ≤ 4000
  | .bad er at' => e = .returned (.tuple #[.pointer none, .int .i64 (at' : Int), .iface 57 (.int .i64 (er : Int))])
  | .out => False
theorem neE (T : TypeId) (v : Value) (w : World) : (binOp BinOp.neq 31 (.iface T v) .nilIface).run Tryz.prog w = .ok (.bool true) w := by kernel_rfl
theorem neN (w : World) : (binOp BinOp.neq 31 .nilIface .nilIface).run Tryz.prog w = .ok (.bool false) w := by kernel_rfl
theorem pRes_ok {L : List UInt8} {f j : Nat} {fs : List FnT} (h : pRes L f = .ok fs j) (hL : L.length ≤ 4000) : (∀ g, g ∈ fs → FW g) ∧ fs.length ≤ 4000 := by
  have hal := pProg_al L hL f [] 0 (by simp) (Nat.le_refl _) (Nat.zero_le _)
  unfold pRes at h
  cases hq : pProg L f [] 0 with
  | out => rw [hq] at h; cases h
  | bad e a => rw [hq] at h; cases h
  | ok gs k =>
    rw [hq] at h hal
    obtain ⟨⟨_, hk⟩, h1, h2⟩ := hal
    cases hc : ckn gs L.length with
    | some y => simp [hc] at h
    | none =>
      simp [hc] at h
      obtain ⟨rfl, rfl⟩ := h
      exact ⟨h1, by omega⟩

set_option maxRecDepth 100000 in
set_option maxHeartbeats 2000000 in
theorem parse_any (T : ByteArray) (f : Nat) (w : World) (hTm : T.size ≤ 281474976710656) (hEv : EvW w) (r : Res (List FnT)) (hr : r = pRes (by' T) f) (hro : r ≠ .out) :
    Calls Tryz.prog 10 #[.string T] w (PaR w T.size r) := by
  have hmm := @run_makeMap Tryz.prog
  have hne := neE
  have hnn := neN
  have HWD : Hid (∀ e w', PaR w T.size r e w' → PaR w T.size r e w') := fun _ _ h => h
  by_cases h4 : 4000 < T.size
  · have q4 : (4000 : Int) < (T.size : Int) := by omega
    have HQ4 := hid h4
    clear h4 hr hro hEv
    go_enter Tryz.func10, Tryz.ntmps10
    go_wp2_with fail
    go_ret3
    exact ⟨Below.refl _ _, by rw [if_pos HQ4.out]; rfl⟩
  · have q4 : ¬ (4000 : Int) < (T.size : Int) := by omega
    have HQ4 := hid h4
    have HPD := hid (parsed_any T f w (by omega) hEv r hr hro)
    have HR := hid hr
    clear h4 hr hro hEv
    cases hrr : r with
    | out =>
      rw [hrr] at HPD
      go_enter Tryz.func10, Tryz.ntmps10
      go_wp2_with fail
      refine HPD.out.mono ?_
      rintro e w1 ⟨_, h⟩
      exact h.elim
    | bad er at' =>
      rw [hrr] at HPD
      go_enter Tryz.func10, Tryz.ntmps10
      go_wp2_with fail
      refine HPD.out.mono ?_
      rintro e w1 ⟨hb, rfl⟩
      have HB := hid hb
      clear hb HPD hrr HWD HR
      go_wp2_with fail
      go_ret3
      exact ⟨HB.out, by rw [if_neg HQ4.out]; rfl⟩
    | ok fs j =>
      rw [hrr] at HPD
      have hfw := pRes_ok (HR.out.symm.trans hrr) (by rw [by_len]; have := HQ4.out; omega)
      have HFW := hid hfw
      obtain ⟨n, hn⟩ : ∃ n, n = fs.length := ⟨_, rfl⟩
      have HN := hid hn
      have hn4 : n ≤ 4000 := by have := hfw.2; omega
      clear hrr HWD HR hfw hn
      go_enter Tryz.func10, Tryz.ntmps10
      go_wp2_with fail
      refine HPD.out.mono ?_
      rintro e w1 ⟨hb, a, c, rfl, hcc, hF⟩
      have HB1 := hid hb
      have HF1 := hid hF
      have HCC := hid hcc
      rw [← HN.out]
      clear hb HPD hF hcc
      go_wp2_with fail
      have HM0 : Hid (MapI nmk (fun x => x.length ≤ 4000) (w1.alloc (.map #[] 0)) w1.heap.size (nmM fs 0)) := MapI.new w1
      have HB0 : Hid (Below w1.heap.size w1 (w1.alloc (.map #[] 0))) := (Below.refl _ w1).alloc (Nat.le_refl _) _
      generalize w1.alloc (.map #[] 0) = W0 at *
      go_loopw [28] (fun iv wr => ∃ (k : Nat), k ≤ n ∧ iv = .int .i64 k ∧ Hid (MapI nmk (fun x => x.length ≤ 4000) wr w1.heap.size (nmM fs k)) ∧ Hid (Below w1.heap.size w1 wr)) (fun iv _ => n - (intOf iv).toNat)
      case atStart => exact ⟨0, Nat.zero_le _, rfl, HM0, HB0⟩
      case round =>
        obtain ⟨k, hk, rfl, hM, hbel⟩ := hrel
        by_cases hlt : k < n
        · have hlt2 : (k : Int) < (n : Int) := by omega
          have hks : IntKind.i64.wrap ((k : Int) + 1) = (k : Int) + 1 := by rw [IntKind.wrap_i64]; omega
          obtain ⟨g, hg⟩ : ∃ g, fs[k]? = some g := ⟨_, List.getElem?_eq_getElem (by have := HN.out; omega)⟩
          obtain ⟨kb, a2, c2, b, rfl, _, d0, d1, d2, d3, _⟩ := HF1.out k g hg
          have c0 := (hbel.out.cell (p := ⟨kb, k * 4, none⟩) (World.block_lt_of_cell? _ _ d0)).trans d0
          have c1 := (hbel.out.cell (p := ⟨kb, k * 4 + 1, none⟩) (World.block_lt_of_cell? _ _ d1)).trans d1
          have c2' := (hbel.out.cell (p := ⟨kb, k * 4 + 2, none⟩) (World.block_lt_of_cell? _ _ d2)).trans d2
          have c3 := (hbel.out.cell (p := ⟨kb, k * 4 + 3, none⟩) (World.block_lt_of_cell? _ _ d3)).trans d3
          have HFO := hid ((HFW.out.1 g (List.mem_of_getElem? hg)).ok)
          have HG := hid hg
          clear d0 d1 d2 d3 hg
          go_wp2_with (refine wpList_updateI namK _ rfl _ _ _ rfl w1.heap.size (nmM fs k) rfl ?_ g.name (k : Int) rfl rfl HFO.out.1 ?_)
          · exact hM.out.below ((Below.refl _ wr).alloc (Nat.le_refl _) _)
          · intro w' hM' hgb
            have HM' : Hid (MapI nmk (fun x => x.length ≤ 4000) w' w1.heap.size (nmM fs (k + 1))) := by unfold Hid; rw [nmM, HG.out]; exact hM'
            have HB' : Hid (Below w1.heap.size w1 w') := gb_belS (hbel.out.trans (((Below.refl _ wr).alloc (Nat.le_refl _) _).mono hbel.out.size)) hgb (Nat.le_refl _) rfl
            clear hM' hgb hM hbel c0 c1 c2' c3
            go_wp2_with fail
            go_roundw
            case rel => exact ⟨k + 1, by omega, by go_num, HM', HB'⟩
            case measure => simp [intOf]; omega
        · obtain rfl : k = n := by omega
          have hlt2 : ¬ (k : Int) < (k : Int) := by omega
          go_wp2_with fail
          go_ret3
          have hbA : Below wr.heap.size wr (wr.alloc (.cells #[.slice a k c, .map (some w1.heap.size)] 74)) := (Below.refl _ _).alloc (Nat.le_refl _) _
          have hb1 := hbel.out.trans (hbA.mono hbel.out.size)
          refine ⟨HB1.out.trans (hb1.mono HB1.out.size), ?_⟩
          rw [if_neg HQ4.out]
          refine ⟨⟨wr.heap.size, rfl, a, c, w1.heap.size, ?_, ?_, HB1.out.size, HCC.out, ?_, ?_⟩, HFW.out⟩
          · rw [← HN.out]; exact heap_alloc_new wr _
          · exact Nat.le_trans HB1.out.size hbel.out.size
          · exact FnR.kept HF1.out (Nat.le_refl _) (fun b _ hl => hb1.block b hl)
          · rw [← HN.out]; exact hM.out.below hbA

end Go.Proofs.YtmmgkdcojkmlcaaGreatDoor

namespace Go.Proofs.YtmmgkdcojkmlcaaGreatDoor
open Go.RowKit

set_option maxRecDepth 100000 in
set_option maxHeartbeats 2000000 in
theorem function_at (p i n c kb B : Nat) (fs : List FnT) (nm : List UInt8) (g : FnT) (a2 : Option Addr) (c2 b : Nat) (w : World) (p0 : w.cell? ⟨p, 0, none⟩ = some (.slice (some ⟨kb, 0, none⟩) n c)) (p1 : w.cell? ⟨p, 1, none⟩ = some (.map (some B))) (hil : i < n) (hM : MapI nmk (fun x => x.length ≤ 4000) w B (nmM fs fs.length)) (hi : nmM fs fs.length nm = some (i : Int)) (hnm : nm.length ≤ 4000)
    (d0 : w.cell? ⟨kb, i * 4, none⟩ = some (.string (bs g.name))) (d1 : w.cell? ⟨kb, i * 4 + 1, none⟩ = some (.int .i64 (g.at' : Int))) (d2 : w.cell? ⟨kb, i * 4 + 2, none⟩ = some (.slice a2 g.more.length c2)) (d3 : w.cell? ⟨kb, i * 4 + 3, none⟩ = some (.pointer (some ⟨b, 0, none⟩))) :
    Calls Tryz.prog 46 #[.pointer (some ⟨p, 0, none⟩), .string (bs nm)] w fun e w' => e = .returned (.agg #[.string (bs g.name), .int .i64 (g.at' : Int), .slice a2 g.more.length c2, .pointer (some ⟨b, 0, none⟩)]) ∧ Below w.heap.size w w' := by
  have hil2 : (i : Int) < (n : Int) := by omega
  have hi0 : (0 : Int) ≤ (i : Int) := by omega
  have HS : Hid (∀ W, Below w.heap.size w W → W.cell? ⟨p, 0, none⟩ = some (.slice (some ⟨kb, 0, none⟩) n c) ∧ W.cell? ⟨p, 1, none⟩ = some (.map (some B)) ∧ W.cell? ⟨kb, i * 4, none⟩ = some (.string (bs g.name)) ∧ W.cell? ⟨kb, i * 4 + 1, none⟩ = some (.int .i64 (g.at' : Int)) ∧ W.cell? ⟨kb, i * 4 + 2, none⟩ = some (.slice a2 g.more.length c2) ∧ W.cell? ⟨kb, i * 4 + 3, none⟩ = some (.pointer (some ⟨b, 0, none⟩)) ∧
      (Instr.lookup 66 (.map (some B)) (.string (bs nm)) false).run Tryz.prog W = .ok (.int .i64 (i : Int)) W) := fun W hb => by
    refine ⟨(hb.cell (p := ⟨p, 0, none⟩) (World.block_lt_of_cell? _ _ p0)).trans p0, (hb.cell (p := ⟨p, 1, none⟩) (World.block_lt_of_cell? _ _ p1)).trans p1, (hb.cell (p := ⟨kb, i * 4, none⟩) (World.block_lt_of_cell? _ _ d0)).trans d0, (hb.cell (p := ⟨kb, i * 4 + 1, none⟩) (World.block_lt_of_cell? _ _ d1)).trans d1, (hb.cell (p := ⟨kb, i * 4 + 2, none⟩) (World.block_lt_of_cell? _ _ d2)).trans d2, (hb.cell (p := ⟨kb, i * 4 + 3, none⟩) (World.block_lt_of_cell? _ _ d3)).trans d3, ?_⟩
    have h1 := (hM.below hb).lookup namK (x := nm) hnm false
    rw [hi] at h1
    exact h1
  have HB0 : Hid (Below w.heap.size w (w.alloc (.cells #[.string ⟨#[]⟩, .int .i64 0, .slice none 0 0, .pointer none] 72))) := (Below.refl _ w).alloc (Nat.le_refl _) _
  clear hM d0 d1 d2 d3 p0 p1 hi hnm
  go_enter Tryz.func46, Tryz.ntmps46
  go_wp2_with fail
  refine wp_region_held_drew (S := (fun W => Below w.heap.size w W)) (by kernel_rfl) (HB0.out.trans ⟨rfl, rfl, rfl, Nat.le_refl _, fun _ _ => rfl⟩) (fun hHeld => ?_)
  refine wpAnyH_takeS (i := 0) (v := .pointer (some ⟨p, 0, none⟩)) rfl (by kernel_rfl) (by kernel_rfl) (by kernel_rfl) (fun _ _ _ h => h) (by rfl) (fun W hC => by go_simp) hHeld ?_
  simp only [Act.put, List.setIfInBounds_toArray, List.set_cons_zero, List.set_cons_succ]
  refine wpAnyH_takeS (i := 1) (v := .pointer (some ⟨p, 0, none⟩)) rfl (by kernel_rfl) (by kernel_rfl) (by kernel_rfl) (fun _ _ _ h => h) (by rfl) (fun W hC => by go_simp) hHeld ?_
  simp only [Act.put, List.setIfInBounds_toArray, List.set_cons_zero, List.set_cons_succ]
  refine wpAnyH_takeS (i := 2) (v := .pointer (some ⟨p, 0, none⟩)) rfl (by kernel_rfl) (by kernel_rfl) (by kernel_rfl) (fun _ _ _ h => h) (by rfl) (fun W hC => by go_simp) hHeld ?_
  simp only [Act.put, List.setIfInBounds_toArray, List.set_cons_zero, List.set_cons_succ]
  refine wpAnyH_takeS (i := 3) (v := .slice (some ⟨kb, 0, none⟩) n c) rfl (by kernel_rfl) (by kernel_rfl) (by kernel_rfl) (fun _ _ _ h => h) (by rfl) (fun W hC => by (obtain ⟨y0, y1, y2, y3, y4, y5, y6⟩ := HS.out W hC); go_simp) hHeld ?_
  simp only [Act.put, List.setIfInBounds_toArray, List.set_cons_zero, List.set_cons_succ]
  refine wpAnyH_takeS (i := 4) (v := .pointer (some ⟨p, 0, none⟩)) rfl (by kernel_rfl) (by kernel_rfl) (by kernel_rfl) (fun _ _ _ h => h) (by rfl) (fun W hC => by go_simp) hHeld ?_
  simp only [Act.put, List.setIfInBounds_toArray, List.set_cons_zero, List.set_cons_succ]
  refine wpAnyH_takeS (i := 5) (v := .pointer (some ⟨p, 0, none⟩)) rfl (by kernel_rfl) (by kernel_rfl) (by kernel_rfl) (fun _ _ _ h => h) (by rfl) (fun W hC => by go_simp) hHeld ?_
  simp only [Act.put, List.setIfInBounds_toArray, List.set_cons_zero, List.set_cons_succ]
  refine wpAnyH_takeS (i := 6) (v := .pointer (some ⟨p, 1, none⟩)) rfl (by kernel_rfl) (by kernel_rfl) (by kernel_rfl) (fun _ _ _ h => h) (by rfl) (fun W hC => by go_simp) hHeld ?_
  simp only [Act.put, List.setIfInBounds_toArray, List.set_cons_zero, List.set_cons_succ]
  refine wpAnyH_takeS (i := 7) (v := .map (some B)) rfl (by kernel_rfl) (by kernel_rfl) (by kernel_rfl) (fun _ _ _ h => h) (by rfl) (fun W hC => by (obtain ⟨y0, y1, y2, y3, y4, y5, y6⟩ := HS.out W hC); go_simp) hHeld ?_
  simp only [Act.put, List.setIfInBounds_toArray, List.set_cons_zero, List.set_cons_succ]
  refine wpAnyH_takeS (i := 8) (v := .string (bs nm)) rfl (by kernel_rfl) (by kernel_rfl) (by kernel_rfl) (fun _ _ _ h => h) (by rfl) (fun W hC => by go_simp) hHeld ?_
  simp only [Act.put, List.setIfInBounds_toArray, List.set_cons_zero, List.set_cons_succ]
  refine wpAnyH_takeS (i := 9) (v := .int .i64 (i : Int)) rfl (by kernel_rfl) (by kernel_rfl) (by kernel_rfl) (fun _ _ _ h => h) (by rfl) (fun W hC => by (obtain ⟨y0, y1, y2, y3, y4, y5, y6⟩ := HS.out W hC); go_simp) hHeld ?_
  simp only [Act.put, List.setIfInBounds_toArray, List.set_cons_zero, List.set_cons_succ]
  refine wpAnyH_takeS (i := 10) (v := .pointer (some ⟨kb, i * 4, none⟩)) rfl (by kernel_rfl) (by kernel_rfl) (by kernel_rfl) (fun _ _ _ h => h) (by rfl) (fun W hC => by go_simp) hHeld ?_
  simp only [Act.put, List.setIfInBounds_toArray, List.set_cons_zero, List.set_cons_succ]
  refine wpAnyH_takeS (i := 11) (v := .agg #[.string (bs g.name), .int .i64 (g.at' : Int), .slice a2 g.more.length c2, .pointer (some ⟨b, 0, none⟩)]) rfl (by kernel_rfl) (by kernel_rfl) (by kernel_rfl) (fun _ _ _ h => h) (by rfl) (fun W hC => by (obtain ⟨y0, y1, y2, y3, y4, y5, y6⟩ := HS.out W hC); go_simp) hHeld ?_
  simp only [Act.put, List.setIfInBounds_toArray, List.set_cons_zero, List.set_cons_succ]
  refine wpAnyH_ready (rs := [12]) (by kernel_rfl) (by simp) ?_
  refine AllReadyH.consS rfl (fun K hK => ?_) AllReadyH.nil
  go_simp
  have hb1 : Below w.heap.size w (w.alloc (.cells #[.string (bs g.name), .int .i64 (g.at' : Int), .slice a2 g.more.length c2, .pointer (some ⟨b, 0, none⟩)] 72)).drew := ((Below.refl _ w).alloc (Nat.le_refl _) _).trans ⟨rfl, rfl, rfl, Nat.le_refl _, fun _ _ => rfl⟩
  refine hK.out _ _ hb1 (fun hHeld => ?_)
  clear hK K
  refine wpAnyH_done (by kernel_rfl) ?_ _
  go_wp2_with fail
  refine bodyPost_ret (results_cell_row rfl _ _ w.heap.size 72 _ (0, 0) _ rfl (heap_alloc_new w _) Tryz.underlying72 rfl (by kernel_rfl)) rfl ?_
  exact ⟨rfl, hb1⟩

theorem function_any (lo p i : Nat) (fs : List FnT) (nm : List UInt8) (g : FnT) (w : World) (hP : PgAt lo w p fs) (hi : nmM fs fs.length nm = some (i : Int)) (hg : fs[i]? = some g) (hnm : nm.length ≤ 4000) :
    Calls Tryz.prog 46 #[.pointer (some ⟨p, 0, none⟩), .string (bs nm)] w fun e w' => ∃ a2 c b, e = .returned (.agg #[.string (bs g.name), .int .i64 (g.at' : Int), .slice a2 g.more.length c, .pointer (some ⟨b, 0, none⟩)]) ∧ NmR lo w a2 g.more ∧ PT lo w g.body (.pointer (some ⟨b, 0, none⟩)) ∧ Below w.heap.size w w' := by
  obtain ⟨a, c, B, hp, _, _, hcc, hF, hM⟩ := hP
  have hil : i < fs.length := (List.getElem?_eq_some_iff.1 hg).1
  obtain ⟨kb, a2, c2, b, rfl, _, d0, d1, d2, d3, d4, d5⟩ := hF i g hg
  have p0 : w.cell? ⟨p, 0, none⟩ = some (.slice (some ⟨kb, 0, none⟩) fs.length c) := by simp [World.cell?, hp]
  have p1 : w.cell? ⟨p, 1, none⟩ = some (.map (some B)) := by simp [World.cell?, hp]
  refine (function_at p i fs.length c kb B fs nm g a2 c2 b w p0 p1 hil hM hi hnm d0 d1 d2 d3).mono ?_
  rintro e w1 ⟨rfl, hb⟩
  exact ⟨a2, c2, b, rfl, d4, d5, hb⟩

theorem fld_more (a b c d : Value) (w : World) : (Instr.field 72 (.agg #[a, b, c, d]) 1).run Tryz.prog w = .ok c w := by kernel_rfl
theorem mainS : (⟨#[109, 97, 105, 110]⟩ : ByteArray) = bs mainW := by
  apply ByteArray.ext
  rfl
set_option maxRecDepth 100000 in
set_option maxHeartbeats 1000000 in
theorem args_any (lo p i : Nat) (fs : List FnT) (g : FnT) (w : World) (hP : PgAt lo w p fs) (hi : nmM fs fs.length mainW = some (i : Int)) (hg : fs[i]? = some g) :
    Calls Tryz.prog 25 #[.pointer (some ⟨p, 0, none⟩)] w fun e w' => e = .returned (.int .i64 (g.more.length : Int)) ∧ Below w.heap.size w w' := by
  have HF := hid (function_any lo p i fs mainW g w hP hi hg (by decide))
  rw [← mainS] at HF
  have hfl := fld_more
  clear hP hi hg
  go_enter Tryz.func25, Tryz.ntmps25
  go_wp2_with fail
  refine HF.out.mono ?_
  rintro e w1 ⟨a2, c, b, rfl, _, _, hb⟩
  have HB := hid hb
  clear hb HF
  go_wp2_with fail
  go_ret
  exact ⟨rfl, HB.out⟩

end Go.Proofs.YtmmgkdcojkmlcaaGreatDoor

namespace Go.Proofs.YtmmgkdcojkmlcaaGreatDoor
open Go.RowKit

end Go.Proofs.YtmmgkdcojkmlcaaGreatDoor

namespace Go.Proofs.YtmmgkdcojkmlcaaGreatDoor
open Go.RowKit

section
variable {P : Program} {ops : Array Oper} {Q : Exit → Act → World → Prop} {md : Region.Mode} {S : World → Prop}
theorem drop_atU {i : Nat} {oi : Oper} {rest : List Oper} (hl : ops.toList.drop i = oi :: rest) : ops[i]? = some oi := by
  have := congrArg (fun l => l[0]?) hl
  simpa [List.getElem?_drop] using this
theorem wpAnyH_takeU {i : Nat} {oi : Oper} {rest : List Oper} {v : Value} {fuel : Nat} {listed : Array Bool} {a : Act} {w : World} (hl : ops.toList.drop i = oi :: rest)
    (hs : Region.noSelect ops = true) (hf : Region.free md ops listed i = true) (hr : (Region.ready md ops listed).contains i = true)
    (hQ : ∀ c a w, Q (.panic c) (a.put oi.dst v) w → Q (.panic c) a w) (hw : Region.wanted oi (yielded ops a.tmps) = true) (hy : ∀ w, S w → (execOp a.eval oi).run P w = .ok (.value v) w) (hS : S w)
    (h : wpAnyH P md ops Q S fuel (listed.setIfInBounds i true) (a.put oi.dst v) w) : wpAnyH P md ops Q S (fuel + 1) listed a w :=
  wpAnyH_take (drop_atU hl) hs hf hr hQ (Or.inl ⟨hw, hy⟩) hS h
theorem AllReadyH.consU {fuel : Nat} {listed : Array Bool} {a : Act} {w : World} {i : Nat} {o : Oper} {rest : List Oper} {rs : List Nat} (hl : ops.toList.drop i = o :: rest)
    (h : ∀ K' : Act → World → Prop, Shut (∀ a w, S w → (S w → wpAnyH P md ops Q S fuel (listed.setIfInBounds i true) a w) → K' a w) → if Region.wanted o (yielded ops a.tmps) = true then Oper.wp P o a w K' Q else K' (a.put o.dst undef) w)
    (hs : AllReadyH P md ops Q S fuel listed a w rs) : AllReadyH P md ops Q S fuel listed a w (i :: rs) := AllReadyH.cons (drop_atU hl) h hs
end
theorem rg_appendU {o : Oper} {a : Act} {w w2 : World} {K : Act → World → Prop} {Q : Exit → Act → World → Prop} (s x : Operand) (tS tX : TypeId)
    (ho : o.op = .call { callee := .builtin .append, args := #[s, x], argTypes := #[tS, tX] }) (v u r : Value) (hs : a.eval s = v) (hx : a.eval x = u) (hrun : (Builtin.append_ #[tS, tX] o.type #[v, u]).run Tryz.prog w = .ok r w2)
    (h : K (a.put o.dst r) w2) : Oper.wp Tryz.prog o a w K Q := by
  unfold Oper.wp
  simp [execOp, ho, resolve, invoke, builtin, hs, hx, hrun, Result.andThen]
  exact h

end Go.Proofs.YtmmgkdcojkmlcaaGreatDoor

namespace Go.Proofs.YtmmgkdcojkmlcaaGreatDoor
open Go.RowKit

section
variable {P : Program} {ops : Array Oper} {Q : Exit → Act → World → Prop} {md : Region.Mode} {S : World → Prop}
theorem wpAnyH_skipV {i : Nat} {oi : Oper} {rest : List Oper} {fuel : Nat} {listed : Array Bool} {a : Act} {w : World} (hl : ops.toList.drop i = oi :: rest)
    (hs : Region.noSelect ops = true) (hf : Region.free md ops listed i = true) (hr : (Region.ready md ops listed).contains i = true)
    (hQ : ∀ c a w, Q (.panic c) (a.put oi.dst undef) w → Q (.panic c) a w) (hw : Region.wanted oi (yielded ops a.tmps) = false) (hS : S w)
    (h : wpAnyH P md ops Q S fuel (listed.setIfInBounds i true) (a.put oi.dst undef) w) : wpAnyH P md ops Q S (fuel + 1) listed a w :=
  wpAnyH_take (drop_atU hl) hs hf hr hQ (Or.inr ⟨hw, rfl⟩) hS h
end

end Go.Proofs.YtmmgkdcojkmlcaaGreatDoor

namespace Go.Proofs.YtmmgkdcojkmlcaaGreatDoor
open Go.RowKit

section
variable {P : Program} {ops : Array Oper} {Q : Exit → Act → World → Prop} {md : Region.Mode} {S : World → Prop}
/-- an operation that makes no memory is taken -/
theorem tkA (i : Nat) (v : Value) {oi : Oper} {rest : List Oper} {fuel : Nat} {listed : Array Bool} {a : Act} {w : World} (h : wpAnyH P md ops Q S fuel (listed.setIfInBounds i true) (a.put oi.dst v) w) (hl : ops.toList.drop i = oi :: rest := by rfl) (hy : ∀ w, S w → (execOp a.eval oi).run P w = .ok (.value v) w := by intro _ _; go_simp) (hS : S w := by exact hHeld)
    (hs : Region.noSelect ops = true := by kernel_rfl) (hf : Region.free md ops listed i = true := by kernel_rfl) (hr : (Region.ready md ops listed).contains i = true := by kernel_rfl) (hQ : ∀ c a w, Q (.panic c) (a.put oi.dst v) w → Q (.panic c) a w := by exact fun _ _ _ h => h) (hw : Region.wanted oi (yielded ops a.tmps) = true := by rfl) : wpAnyH P md ops Q S (fuel + 1) listed a w :=
  wpAnyH_takeU hl hs hf hr hQ hw hy hS h
/-- one alone may come up -/
theorem rdA (i : Nat) {o : Oper} {rest : List Oper} {fuel : Nat} {listed : Array Bool} {a : Act} {w : World} (h : ∀ K' : Act → World → Prop, Shut (∀ a w, S w → (S w → wpAnyH P md ops Q S fuel (listed.setIfInBounds i true) a w) → K' a w) → if Region.wanted o (yielded ops a.tmps) = true then Oper.wp P o a w K' Q else K' (a.put o.dst undef) w) (hl : ops.toList.drop i = o :: rest := by rfl) (hr : Region.ready md ops listed = [i] := by kernel_rfl) : wpAnyH P md ops Q S (fuel + 1) listed a w :=
  wpAnyH_ready hr (by simp) (AllReadyH.consU hl h AllReadyH.nil)
/-- one that isn't wanted is passed by -/
theorem psA (i : Nat) {oi : Oper} {rest : List Oper} {fuel : Nat} {listed : Array Bool} {a : Act} {w : World} (h : wpAnyH P md ops Q S fuel (listed.setIfInBounds i true) (a.put oi.dst undef) w) (hl : ops.toList.drop i = oi :: rest := by rfl) (hS : S w := by exact hHeld)
    (hs : Region.noSelect ops = true := by kernel_rfl) (hf : Region.free md ops listed i = true := by kernel_rfl) (hr : (Region.ready md ops listed).contains i = true := by kernel_rfl) (hQ : ∀ c a w, Q (.panic c) (a.put oi.dst undef) w → Q (.panic c) a w := by exact fun _ _ _ h => h) (hw : Region.wanted oi (yielded ops a.tmps) = false := by rfl) : wpAnyH P md ops Q S (fuel + 1) listed a w :=
  wpAnyH_skipV hl hs hf hr hQ hw hS h
end
theorem putX : (∀ (a : Act) (t : Tmp) (v : Value), a.put (some t) v = { a with tmps := a.tmps.setIfInBounds t v }) ∧ (∀ (l : List Value) (i : Nat) (a : Value), l.toArray.setIfInBounds i a = (l.set i a).toArray) ∧ (∀ (x : Value) (l : List Value) (a : Value), (x :: l).set 0 a = a :: l) ∧ (∀ (x : Value) (l : List Value) (n : Nat) (a : Value), (x :: l).set (n + 1) a = x :: l.set n a) := ⟨fun _ _ _ => rfl, List.setIfInBounds_toArray, fun _ _ _ => List.set_cons_zero, fun _ _ _ _ => List.set_cons_succ⟩

end Go.Proofs.YtmmgkdcojkmlcaaGreatDoor

namespace Go.Proofs.YtmmgkdcojkmlcaaGreatDoor
open Go.RowKit

def nmS (ms : List (List UInt8 × Nat)) (k i : Nat) : Value := .string (if i < k then bs (match ms[i]? with | some x => x.1 | none => []) else ⟨#[]⟩)

set_option maxRecDepth 100000 in
set_option maxHeartbeats 2000000 in
theorem shnames_any (a : Option Addr) (c : Nat) (nm : List UInt8) (at' : Int) (bd : Value) (ms : List (List UInt8 × Nat)) (w : World) (hm : ms.length ≤ 4000) (hN : NmR 0 w a ms) (hbd : ∃ b : Nat, bd = .pointer (some ⟨b, 0, none⟩)) :
    Calls Tryz.prog 68 #[.agg #[.string (bs nm), .int .i64 at', .slice a ms.length c, bd]] w fun e w' => ∃ K, e = .returned (.slice (some ⟨K, 0, none⟩) ms.length ms.length) ∧ w.heap.size ≤ K ∧ w'.rowIs K 9 ms.length (nmS ms ms.length) ∧ Below w.heap.size w w' := by
  obtain ⟨b, rfl⟩ := hbd
  obtain ⟨n, hn⟩ : ∃ n, n = ms.length := ⟨_, rfl⟩
  obtain ⟨V0, hV0⟩ : ∃ V, V = w.alloc (.cells #[.string (bs nm), .int .i64 at', .slice a n c, .pointer (some ⟨b, 0, none⟩)] 72) := ⟨_, rfl⟩
  rw [← hn] at hm ⊢
  have hbV : Below w.heap.size w V0 := by rw [hV0]; exact (Below.refl _ _).alloc (Nat.le_refl _) _
  have HN := hid hn
  have HF := hid hN
  have hSI : (Tryz.prog.info? 9).map (fun i => (i.zero, i.size, i.bytes)) = some (some (.string ⟨#[]⟩), 1, 16) := by kernel_rfl
  obtain ⟨i0, hi, hz0, hz1, hz2⟩ := info_parts hSI
  obtain ⟨B, hB⟩ : ∃ B, B = w.heap.size := ⟨_, rfl⟩
  have hg0 : V0.heap[B]? = some (.cells #[.string (bs nm), .int .i64 at', .slice a n c, .pointer (some ⟨b, 0, none⟩)] 72 (0, 0)) := by rw [hV0, hB]; exact heap_alloc_new w _
  have hs0 : V0.heap.size = B + 1 := by rw [hV0, hB]; simp
  obtain ⟨W0, hW0⟩ : ∃ W, W = V0.alloc (.cells (madeCells #[.string ⟨#[]⟩] n) 9) := ⟨_, rfl⟩
  have hb2 : Below V0.heap.size V0 W0 := by rw [hW0]; exact (Below.refl _ _).alloc (Nat.le_refl _) _
  obtain ⟨K0, hK0⟩ : ∃ K0, K0 = V0.heap.size := ⟨_, rfl⟩
  have hr0 : W0.rowIs K0 9 n (nmS ms 0) := by rw [hW0, hK0]; exact (World.rowIs_made V0 _ n _).congr (fun i _ => by unfold nmS; rw [if_neg (by omega)])
  have x0 : V0.cell? ⟨B, 2, none⟩ = some (.slice a n c) := by simp [World.cell?, hg0]
  have x1 : W0.cell? ⟨B, 2, none⟩ = some (.slice a n c) := (hb2.cell (p := ⟨B, 2, none⟩) (show B < V0.heap.size by omega)).trans x0
  have HB0 : Hid (Below w.heap.size w W0) := hbV.trans (hb2.mono hbV.size)
  have HK0 : Hid (w.heap.size < K0) := by unfold Hid; omega
  have HR0 := hid hr0
  have HV0 := hid hV0
  have HW0 := hid hW0
  have HBB := hid hB
  have HKK := hid hK0
  clear hN hn hSI hbV hV0 hB hg0 hs0 hW0 hb2 hK0 hr0
  go_enter Tryz.func68, Tryz.ntmps68
  go_wp2_with (rw [← HV0.out, ← HBB.out]; refine wpList_make_row _ rfl _ _ _ rfl 9 i0 (.string ⟨#[]⟩) Tryz.underlying48 hi hz0 hz1 rfl .i64 .i64 n rfl rfl (by rw [hz2]; omega) (by omega) ?_; rw [← HW0.out, ← HKK.out])
  clear x0 x1
  go_loopw [13] (fun iv wr => ∃ (k : Nat), k ≤ n ∧ iv = .int .i64 k ∧ Hid (wr.rowIs K0 9 n (nmS ms k)) ∧ Hid (Below w.heap.size w wr)) (fun iv _ => n - (intOf iv).toNat)
  case atStart => exact ⟨0, Nat.zero_le _, rfl, HR0, HB0⟩
  case round =>
    obtain ⟨k, hk, rfl, hR, hbel⟩ := hrel
    by_cases hlt : k < n
    · have hlt2 : (k : Int) < (n : Int) := by omega
      have hks : IntKind.i64.wrap ((k : Int) + 1) = (k : Int) + 1 := by rw [IntKind.wrap_i64]; omega
      obtain ⟨x, hx⟩ : ∃ x, ms[k]? = some x := ⟨_, List.getElem?_eq_getElem (by have := HN.out; omega)⟩
      obtain ⟨g, rfl, _, d0, d1⟩ := HF.out k x hx
      have c0 := (hbel.out.cell (p := ⟨g, k * 2, none⟩) (World.block_lt_of_cell? _ _ d0)).trans d0
      have c1 := (hbel.out.cell (p := ⟨g, k * 2 + 1, none⟩) (World.block_lt_of_cell? _ _ d1)).trans d1
      have hRA := hR.out.alloc (.cells #[.string (bs x.1), .int .i64 (x.2 : Int)] 68)
      have r1 := hRA.cell (i := k) hlt
      have r2 := hRA.frozen k
      have HR2 : Hid (((wr.alloc (.cells #[.string (bs x.1), .int .i64 (x.2 : Int)] 68)).setCell ⟨K0, k, none⟩ (.string (bs x.1))).rowIs K0 9 n (nmS ms (k + 1))) := (hRA.set k (.string (bs x.1))).congr (fun i _ => by
        by_cases e : i = k
        · rw [if_pos e, e]; unfold nmS; rw [if_pos (by omega), hx]
        · rw [if_neg e]; unfold nmS
          by_cases e2 : i < k
          · rw [if_pos e2, if_pos (by omega)]
          · rw [if_neg e2, if_neg (by omega)])
      have HB2 : Hid (Below w.heap.size w ((wr.alloc (.cells #[.string (bs x.1), .int .i64 (x.2 : Int)] 68)).setCell ⟨K0, k, none⟩ (.string (bs x.1)))) :=
        bl_set (hbel.out.trans (((Below.refl _ wr).alloc (Nat.le_refl _) (.cells #[.string (bs x.1), .int .i64 (x.2 : Int)] 68)).mono hbel.out.size)) (by have := HK0.out; omega) _
      unfold nmS at r1
      clear d0 d1 hx hRA hR hbel
      go_wp2_with fail
      go_roundw
      case rel => exact ⟨k + 1, by omega, by go_num, HR2, HB2⟩
      case measure => simp [intOf]; omega
    · obtain rfl : k = n := by omega
      have hlt2 : ¬ (k : Int) < (k : Int) := by omega
      go_wp2_with fail
      go_ret
      exact ⟨K0, rfl, by have := HK0.out; omega, hR.out, hbel.out⟩

/-- a function shown: its six cells -/
def ShF (lo : Nat) (w : World) (g : FnT) (vs : List Value) : Prop := ∃ K v0 v1 v2 v3, vs = [.string (bs g.name), .slice (some ⟨K, 0, none⟩) g.more.length g.more.length, v0, v1, v2, v3] ∧ w.rowIs K 9 g.more.length (nmS g.more g.more.length) ∧ lo ≤ K ∧ ShP lo w g.body [v0, v1, v2, v3]

set_option maxRecDepth 100000 in
set_option maxHeartbeats 2000000 in
theorem fnshown_any (a : Option Addr) (c b : Nat) (g : FnT) (w : World) (hm : g.more.length ≤ 4000) (hN : NmR 0 w a g.more) (hT : TW g.body) (hP : PT 0 w g.body (.pointer (some ⟨b, 0, none⟩))) :
    Calls Tryz.prog 47 #[.agg #[.string (bs g.name), .int .i64 (g.at' : Int), .slice a g.more.length c, .pointer (some ⟨b, 0, none⟩)]] w fun e w' => ∃ vs : List Value, e = .returned (.agg vs.toArray) ∧ ShF w.heap.size w' g vs ∧ Below w.heap.size w w' := by
  have hmx : Tryz.prog.follows .mixedOrders = true := by kernel_rfl
  have HNM : Hid (∀ W, Below w.heap.size w W → Calls Tryz.prog 68 #[.agg #[.string (bs g.name), .int .i64 (g.at' : Int), .slice a g.more.length c, .pointer (some ⟨b, 0, none⟩)]] W fun e w' => ∃ K, e = .returned (.slice (some ⟨K, 0, none⟩) g.more.length g.more.length) ∧ W.heap.size ≤ K ∧ w'.rowIs K 9 g.more.length (nmS g.more g.more.length) ∧ Below W.heap.size W w') := fun W h =>
    shnames_any a c g.name g.at' _ g.more W hm (hN.keep (Nat.le_refl _) (fun x _ hx => h.block x hx)) ⟨b, rfl⟩
  have HSH : Hid (∀ W, Below w.heap.size w W → Calls Tryz.prog 69 #[.pointer (some ⟨b, 0, none⟩)] W fun e w' => ∃ vs : List Value, e = .returned (.agg vs.toArray) ∧ ShP W.heap.size w' g.body vs ∧ Below W.heap.size W w') := fun W h =>
    shown_any (tsz g.body) g.body _ W (Nat.le_refl _) hT (PT.below hP h)
  obtain ⟨n, hn⟩ : ∃ n, n = g.more.length := ⟨_, rfl⟩
  have HN := hid hn
  rw [← hn] at HNM ⊢
  obtain ⟨V0, hV0⟩ : ∃ V, V = w.alloc (.cells #[.string (bs g.name), .int .i64 (g.at' : Int), .slice a n c, .pointer (some ⟨b, 0, none⟩)] 72) := ⟨_, rfl⟩
  obtain ⟨W0, hW0⟩ : ∃ W, W = V0.alloc (.cells #[.string ⟨#[]⟩, .slice none 0 0, .int .i64 0, .string ⟨#[]⟩, .int .i64 0, .slice none 0 0] 95) := ⟨_, rfl⟩
  obtain ⟨B, hB⟩ : ∃ B, B = w.heap.size := ⟨_, rfl⟩
  have hs0 : V0.heap.size = B + 1 := by rw [hV0, hB]; simp
  have hs1 : W0.heap.size = B + 2 := by rw [hW0]; simp [hs0]
  have hbV : Below w.heap.size w V0 := by rw [hV0]; exact (Below.refl _ _).alloc (Nat.le_refl _) _
  have hb2 : Below V0.heap.size V0 W0 := by rw [hW0]; exact (Below.refl _ _).alloc (Nat.le_refl _) _
  have hg0 : W0.heap[B]? = some (.cells #[.string (bs g.name), .int .i64 (g.at' : Int), .slice a n c, .pointer (some ⟨b, 0, none⟩)] 72 (0, 0)) := (hb2.block B (by omega)).trans (by rw [hV0, hB]; exact heap_alloc_new w _)
  have hg1 : W0.heap[B + 1]? = some (.cells #[.string ⟨#[]⟩, .slice none 0 0, .int .i64 0, .string ⟨#[]⟩, .int .i64 0, .slice none 0 0] 95 (0, 0)) := by rw [← hs0, hW0]; exact heap_alloc_new V0 _
  have HB0 : Hid (Below w.heap.size w W0) := hbV.trans (hb2.mono hbV.size)
  have HG : Hid (∀ W, Below W0.heap.size W0 W → W.cell? ⟨B, 0, none⟩ = some (.string (bs g.name)) ∧ W.cell? ⟨B, 1, none⟩ = some (.int .i64 (g.at' : Int)) ∧ W.cell? ⟨B, 2, none⟩ = some (.slice a n c) ∧ W.cell? ⟨B, 3, none⟩ = some (.pointer (some ⟨b, 0, none⟩))) := fun W h => by
    have := (h.block B (by omega)).trans hg0
    exact ⟨by simp [World.cell?, this], by simp [World.cell?, this], by simp [World.cell?, this], by simp [World.cell?, this]⟩
  have HG1 := hid hg1
  have HV0 := hid hV0
  have HW0 := hid hW0
  have HBB := hid hB
  have HS1 := hid hs1
  have HS0 := hid hs0
  clear hm hN hT hP hn hV0 hW0 hB hs0 hs1 hbV hb2 hg0 hg1
  go_enter Tryz.func47, Tryz.ntmps47
  go_wp2_with fail
  rw [← HV0.out, ← HW0.out, ← HBB.out]
  refine wp_region_held_drew (S := fun W => W.cell? ⟨B, 0, none⟩ = some (.string (bs g.name)) ∧ W.cell? ⟨B, 1, none⟩ = some (.int .i64 (g.at' : Int)) ∧ W.cell? ⟨B, 2, none⟩ = some (.slice a n c) ∧ W.cell? ⟨B, 3, none⟩ = some (.pointer (some ⟨b, 0, none⟩))) hmx (HG.out _ (below_drewN (Below.refl _ _) 1)) (fun hHeld => ?_)
  refine tkA 0 (.pointer (some ⟨B, 0, none⟩)) ?_
  simp only [putX]
  refine tkA 1 (.pointer (some ⟨B, 0, none⟩)) ?_
  simp only [putX]
  refine tkA 2 (.string (bs g.name)) ?_
  simp only [putX]
  refine tkA 3 (.agg #[.string (bs g.name), .int .i64 (g.at' : Int), .slice a n c, .pointer (some ⟨b, 0, none⟩)]) ?_
  simp only [putX]
  refine tkA 5 (.pointer (some ⟨B, 2 + 1, none⟩)) ?_
  simp only [putX]
  refine tkA 6 (.pointer (some ⟨b, 0, none⟩)) ?_
  simp only [putX]
  refine rdA 4 fun K' hK' => ?_
  go_simp
  refine (HNM.out _ (HB0.out.trans (below_drewN (Below.refl _ _) 1))).mono ?_
  rintro e w1 ⟨K, rfl, hK, hKr, hb1⟩
  have hb1' : Below W0.heap.size W0 w1 := (below_drewN (Below.refl _ W0) 1).trans hb1
  refine hK'.out _ _ (HG.out _ hb1') (fun hHeld => ?_)
  clear hK' K'
  refine rdA 7 fun K' hK' => ?_
  go_simp
  refine (HSH.out _ (HB0.out.trans (hb1'.mono HB0.out.size))).mono ?_
  rintro e w2 ⟨vs, rfl, hvs, hb2⟩
  obtain ⟨sk, ss, sn, sa, sl, sc, rfl⟩ := hvs.form
  have hb2' : Below W0.heap.size W0 w2 := hb1'.trans (hb2.mono hb1'.size)
  refine hK'.out _ _ (HG.out _ hb2') (fun hHeld => ?_)
  clear hK' K'
  refine tkA 8 (.agg #[.string (bs g.name), .slice (some ⟨K, 0, none⟩) n n, .int .i64 sk, .string ss, .int .i64 sn, .slice sa sl sc]) ?_
  simp only [putX]
  refine rdA 9 fun K' hK' => ?_
  rw [if_pos (by rfl)]
  have hg2 := (hb2'.block (B + 1) (by rw [HS1.out]; omega)).trans HG1.out
  refine wp_store_row 95 _ _ rfl (B + 1) #[.string (bs g.name), .slice (some ⟨K, 0, none⟩) n n, .int .i64 sk, .string ss, .int .i64 sn, .slice sa sl sc] rfl rfl _ _ hg2 (by kernel_rfl) rfl (by simp [Value.oneCell']) ?_
  refine hK'.out _ _ (by have := HG.out w2 hb2'; simp only [World.cell?] at this ⊢; rw [setRow_other _ _ _ _ (by omega)]; exact this) (fun hHeld => ?_)
  clear hK' K'
  refine wpAnyH_done (by kernel_rfl) ?_ _
  go_wp2_with fail
  refine bodyPost_ret (results_cell_row rfl _ _ (B + 1) 95 #[.string (bs g.name), .slice (some ⟨K, 0, none⟩) n n, .int .i64 sk, .string ss, .int .i64 sn, .slice sa sl sc] (0, 0) _ rfl (setRow_heap _ _ _ _ _ _ hg2) Tryz.underlying95 rfl (by kernel_rfl)) rfl ?_
  have hlt : w.heap.size < B + 1 := by have := HBB.out; omega
  have hK1 : w.heap.size ≤ K := by have := HS1.out; have := HBB.out; exact Nat.le_trans (by rw [← HBB.out, show (W0.drewN 1).heap.size = B + 2 from HS1.out]; omega) hK
  have hKB : K ≠ B + 1 := by have : (W0.drewN 1).heap.size = B + 2 := HS1.out; omega
  refine ⟨[.string (bs g.name), .slice (some ⟨K, 0, none⟩) n n, .int .i64 sk, .string ss, .int .i64 sn, .slice sa sl sc], rfl, ⟨K, .int .i64 sk, .string ss, .int .i64 sn, .slice sa sl sc, by rw [← HN.out], ?_, hK1, ?_⟩, bl_row (HB0.out.trans (hb2'.mono HB0.out.size)) (Nat.le_of_lt hlt) _⟩
  · rw [← HN.out]
    have := World.rowIs.of_block hKr (hb2.block K (World.rowIs.lt hKr))
    exact World.rowIs.of_block this (setRow_other _ _ _ _ hKB)
  · exact ShP.keep (Nat.le_trans HB0.out.size hb1'.size) (fun x _ _ hx _ => setRow_other _ _ _ _ (by have := hb1'.size; have := HS1.out; omega)) g.body _ hvs

theorem ShF.keep {lo lo' : Nat} {w w' : World} {g : FnT} {vs : List Value} (h : ShF lo w g vs) (hl : lo' ≤ lo) (hk : ∀ x cs f t, lo ≤ x → w.heap[x]? = some (.cells cs t f) → t = 93 ∨ t = 9 → w'.heap[x]? = w.heap[x]?) : ShF lo' w' g vs := by
  obtain ⟨K, v0, v1, v2, v3, h1, h2, h3, h4⟩ := h
  obtain ⟨c, hc, h5⟩ := h2
  exact ⟨K, v0, v1, v2, v3, h1, ⟨c, (hk K c _ _ h3 hc (Or.inr rfl)).trans hc, h5⟩, Nat.le_trans hl h3, ShP.keep hl (fun x cs f hx hc => hk x cs f _ hx hc (Or.inl rfl)) g.body _ h4⟩
theorem ShF.below {lo : Nat} {w w' : World} {g : FnT} {vs : List Value} (h : ShF lo w g vs) (e : Below w.heap.size w w') : ShF lo w' g vs :=
  h.keep (Nat.le_refl _) (fun x _ _ _ _ hx _ => e.block x (Array.getElem?_eq_some_iff.1 hx).1)
theorem ShF.form {lo : Nat} {w : World} {g : FnT} {vs : List Value} (h : ShF lo w g vs) : ∃ (K : Nat) (k : Int) (s : ByteArray) (n : Int) (a : Option Addr) (l c : Nat), vs = [.string (bs g.name), .slice (some ⟨K, 0, none⟩) g.more.length g.more.length, .int .i64 k, .string s, .int .i64 n, .slice a l c] := by
  obtain ⟨K, v0, v1, v2, v3, rfl, _, _, h4⟩ := h
  obtain ⟨k, s, n, a, l, c, e⟩ := h4.form
  injection e with e0 e
  injection e with e1 e
  injection e with e2 e
  injection e with e3 e
  exact ⟨K, k, s, n, a, l, c, by rw [e0, e1, e2, e3]⟩
/-- rows of six that are being told -/
def R6 (w : World) (P n i : Nat) (F : Nat → List Value) : Prop := ∃ cs, w.heap[P]? = some (.cells cs 95 (0, 0)) ∧ cs.size = n * 6 ∧ ∀ k, k < i → ∀ j, j < 6 → ∀ v, (F k)[j]? = some v → cs[k * 6 + j]? = some v
theorem R6.set {w : World} {P n i : Nat} {F : Nat → List Value} (h : R6 w P n i F) (hi : i < n) (v0 v1 v2 v3 v4 v5 : Value) (hF : F i = [v0, v1, v2, v3, v4, v5]) :
    R6 ((((((w.setCell ⟨P, i * 6, none⟩ v0).setCell ⟨P, i * 6 + 1, none⟩ v1).setCell ⟨P, i * 6 + 2, none⟩ v2).setCell ⟨P, i * 6 + 3, none⟩ v3).setCell ⟨P, i * 6 + 4, none⟩ v4).setCell ⟨P, i * 6 + 5, none⟩ v5) P n (i + 1) F := by
  obtain ⟨cs, h1, h2, h3⟩ := h
  have e1 := heap_setCell_same w P (i * 6) cs _ v0 h1
  have e2 := heap_setCell_same _ P (i * 6 + 1) _ _ v1 e1
  have e3 := heap_setCell_same _ P (i * 6 + 2) _ _ v2 e2
  have e4 := heap_setCell_same _ P (i * 6 + 3) _ _ v3 e3
  have e5 := heap_setCell_same _ P (i * 6 + 4) _ _ v4 e4
  have e6 := heap_setCell_same _ P (i * 6 + 5) _ _ v5 e5
  refine ⟨_, e6, by simp [h2], fun k hk j hj v hv => ?_⟩
  rcases Nat.lt_or_ge k i with hki | hki
  · have := h3 k hki j hj v hv
    rw [Array.getElem?_setIfInBounds_ne (by omega), Array.getElem?_setIfInBounds_ne (by omega), Array.getElem?_setIfInBounds_ne (by omega), Array.getElem?_setIfInBounds_ne (by omega), Array.getElem?_setIfInBounds_ne (by omega), Array.getElem?_setIfInBounds_ne (by omega)]
    exact this
  · obtain rfl : k = i := by omega
    rw [hF] at hv
    match j, hj, hv with
    | 0, _, hv =>
      simp at hv; subst hv
      rw [Array.getElem?_setIfInBounds_ne (by omega), Array.getElem?_setIfInBounds_ne (by omega), Array.getElem?_setIfInBounds_ne (by omega), Array.getElem?_setIfInBounds_ne (by omega), Array.getElem?_setIfInBounds_ne (by omega), Nat.add_zero, Array.getElem?_setIfInBounds_self_of_lt (by omega)]
    | 1, _, hv =>
      simp at hv; subst hv
      rw [Array.getElem?_setIfInBounds_ne (by omega), Array.getElem?_setIfInBounds_ne (by omega), Array.getElem?_setIfInBounds_ne (by omega), Array.getElem?_setIfInBounds_ne (by omega), Array.getElem?_setIfInBounds_self_of_lt (by simp; omega)]
    | 2, _, hv =>
      simp at hv; subst hv
      rw [Array.getElem?_setIfInBounds_ne (by omega), Array.getElem?_setIfInBounds_ne (by omega), Array.getElem?_setIfInBounds_ne (by omega), Array.getElem?_setIfInBounds_self_of_lt (by simp; omega)]
    | 3, _, hv =>
      simp at hv; subst hv
      rw [Array.getElem?_setIfInBounds_ne (by omega), Array.getElem?_setIfInBounds_ne (by omega), Array.getElem?_setIfInBounds_self_of_lt (by simp; omega)]
    | 4, _, hv =>
      simp at hv; subst hv
      rw [Array.getElem?_setIfInBounds_ne (by omega), Array.getElem?_setIfInBounds_self_of_lt (by simp; omega)]
    | 5, _, hv =>
      simp at hv; subst hv
      rw [Array.getElem?_setIfInBounds_self_of_lt (by simp; omega)]
theorem R6.block {w w' : World} {P n i : Nat} {F : Nat → List Value} (h : R6 w P n i F) (e : w'.heap[P]? = w.heap[P]?) : R6 w' P n i F := by
  obtain ⟨cs, h1, h2, h3⟩ := h
  exact ⟨cs, e.trans h1, h2, h3⟩
theorem R6.lt {w : World} {P n i : Nat} {F : Nat → List Value} (h : R6 w P n i F) : P < w.heap.size := by
  obtain ⟨cs, h1, _⟩ := h
  exact (Array.getElem?_eq_some_iff.1 h1).1
theorem R6.cells {w : World} {P n i : Nat} {F : Nat → List Value} (h : R6 w P n i F) {k : Nat} (hk : k < n) (j : Nat) (hj : j < 6) : ∃ u, w.cell? ⟨P, k * 6 + j, none⟩ = some u := by
  obtain ⟨cs, h1, h2, _⟩ := h
  have : k * 6 + j < cs.size := by omega
  exact ⟨cs[k * 6 + j], by simp [World.cell?, h1, this]⟩
theorem R6.frozen {w : World} {P n i : Nat} {F : Nat → List Value} (h : R6 w P n i F) (o : Nat) : w.frozen? ⟨P, o, none⟩ = false := by
  obtain ⟨cs, h1, _⟩ := h
  simp [World.frozen?, h1]
/-- functions shown, in memory -/
structure ShA (lo : Nat) (w : World) (P : Nat) (fs : List FnT) : Prop where
  row : ∃ F, R6 w P fs.length fs.length F ∧ ∀ k g, fs[k]? = some g → ShF lo w g (F k)
  hP : lo ≤ P
structure ShQ (w W : World) (P n i : Nat) (fs : List FnT) (F : Nat → List Value) : Prop where
  bel : Below w.heap.size w W
  row : R6 W P n i F
  kid : ∀ k g, k < i → fs[k]? = some g → ShF (P + 1) W g (F k)
  hP : w.heap.size ≤ P

set_option maxRecDepth 100000 in
set_option maxHeartbeats 4000000 in
theorem show_any (lo p : Nat) (fs : List FnT) (w : World) (hP : PgAt lo w p fs) (hl4 : fs.length ≤ 4000) (hW : ∀ x, x ∈ fs → FW x) :
    Calls Tryz.prog 26 #[.pointer (some ⟨p, 0, none⟩)] w fun e w' => ∃ P, e = .returned (.slice (some ⟨P, 0, none⟩) fs.length fs.length) ∧ ShA w.heap.size w' P fs ∧ Below w.heap.size w w' := by
  obtain ⟨a, c, B, hp, _, _, hcc, hF, _⟩ := hP
  obtain ⟨n, hn⟩ : ∃ n, n = fs.length := ⟨_, rfl⟩
  rw [← hn] at hp hl4 ⊢
  have HN := hid hn
  have p0 : w.cell? ⟨p, 0, none⟩ = some (.slice a n c) := by simp [World.cell?, hp]
  have hpw : p < w.heap.size := (Array.getElem?_eq_some_iff.1 hp).1
  have HF := hid hF
  have HWW := hid hW
  obtain ⟨i0, hi, hz0, hz1, hz2⟩ := info_parts (show (Tryz.prog.info? 95).map (fun i => (i.zero, i.size, i.bytes)) = some (some (.agg #[.string ⟨#[]⟩, .slice none 0 0, .int .i64 0, .string ⟨#[]⟩, .int .i64 0, .slice none 0 0]), 6, 96) by kernel_rfl)
  clear hp hcc hF hn hW
  go_enter Tryz.func26, Tryz.ntmps26
  go_wp2_with (refine wpList_make_full _ rfl _ _ _ rfl w.heap.size 95 i0 _ 6 Tryz.underlying88 hi hz0 hz1 .i64 .i64 _ _ n rfl rfl rfl rfl (by rw [hz2]; omega) (by unfold maxLen; omega) (Nat.le_refl _) ?_)
  intro W1 hown hgr
  obtain ⟨P, hPP⟩ : ∃ P, P = w.heap.size := ⟨_, rfl⟩
  have hb1 : Below w.heap.size w W1 := ⟨hgr.os, hgr.tape, hgr.output, hgr.size, fun k hk => hgr.block k hk (by simp)⟩
  have hrow : R6 W1 P n 0 (fun _ => []) := by
    rcases hown.2 with ⟨h0, _⟩ | ⟨g, cap, cur, hsl, hg, hc, h1, h2, h3, h4⟩
    · cases h0
    · injection hsl with e1 e2 e3
      injection e1 with e1
      injection e1 with e1
      subst e3
      rw [← e1, ← hPP] at hc
      exact ⟨cur, hc, h3, fun k hk => absurd hk (Nat.not_lt_zero _)⟩
  have HSR : Hid (ShQ w W1 P n 0 fs (fun _ => [])) := ⟨hb1, hrow, fun k t hk => absurd hk (Nat.not_lt_zero _), by rw [hPP]; exact Nat.le_refl _⟩
  rw [← hPP]
  have x1 : W1.cell? ⟨p, 0, none⟩ = some (.slice a n c) := (HSR.out.bel.cell (p := ⟨p, 0, none⟩) hpw).trans p0
  clear hown hgr hb1 hrow p0 hPP hi hz0 hz1 hz2
  go_wp2_with fail
  clear x1
  go_loopw [17] (fun iv wr => ∃ (i : Nat) (F : Nat → List Value), i ≤ n ∧ iv = .int .i64 (i : Int) ∧ Hid (ShQ w wr P n i fs F)) (fun iv _ => n - (intOf iv).toNat)
  case atStart => exact ⟨0, _, Nat.zero_le _, rfl, HSR⟩
  case round =>
    obtain ⟨i, F, hin, rfl, HI⟩ := hrel
    clear HSR
    by_cases hlt : i < n
    · have hlt2 : (i : Int) < (n : Int) := by omega
      have hks : IntKind.i64.wrap ((i : Int) + 1) = (i : Int) + 1 := by rw [IntKind.wrap_i64]; omega
      obtain ⟨g, hg⟩ : ∃ g, fs[i]? = some g := ⟨_, List.getElem?_eq_getElem (by rw [← HN.out]; exact hlt)⟩
      obtain ⟨kb, a2, c2, b, rfl, _, d0, d1, d2, d3, hnm, hbd⟩ := HF.out i g hg
      have y0 := (HI.out.bel.cell (p := ⟨kb, i * 4, none⟩) (World.block_lt_of_cell? _ _ d0)).trans d0
      have y1 := (HI.out.bel.cell (p := ⟨kb, i * 4 + 1, none⟩) (World.block_lt_of_cell? _ _ d1)).trans d1
      have y2 := (HI.out.bel.cell (p := ⟨kb, i * 4 + 2, none⟩) (World.block_lt_of_cell? _ _ d2)).trans d2
      have y3 := (HI.out.bel.cell (p := ⟨kb, i * 4 + 3, none⟩) (World.block_lt_of_cell? _ _ d3)).trans d3
      have hfw := HWW.out g (List.mem_of_getElem? hg)
      obtain ⟨V, hV⟩ : ∃ V, V = wr.alloc (.cells #[.string (bs g.name), .int .i64 (g.at' : Int), .slice a2 g.more.length c2, .pointer (some ⟨b, 0, none⟩)] 72) := ⟨_, rfl⟩
      have hbV : Below wr.heap.size wr V := by rw [hV]; exact (Below.refl _ _).alloc (Nat.le_refl _) _
      have hbwV := HI.out.bel.trans (hbV.mono HI.out.bel.size)
      have HC := hid (fnshown_any a2 c2 b g V hfw.2.2.1 (hnm.keep (Nat.zero_le _) (fun x _ hx => hbwV.block x hx)) hfw.2.2.2 (PT.mono (PT.below hbd hbwV) (Nat.zero_le _)))
      have HT := hid hg
      have HV := hid hV
      have HBV := hid hbV
      obtain ⟨gn, hgn⟩ : ∃ gn, gn = g.more.length := ⟨_, rfl⟩
      clear hfw hnm hbd d0 d1 d2 d3 hg hV hbV hbwV
      go_wp2_with fail
      rw [← HV.out]
      refine HC.out.mono ?_
      rintro e w2 ⟨vs, rfl, hvs, hb2⟩
      obtain ⟨sK, sk, ss, sn, sa, sl, sc, rfl⟩ := hvs.form
      have hb2' : Below wr.heap.size wr w2 := HBV.out.trans (hb2.mono HBV.out.size)
      have hR2 : R6 w2 P n i F := HI.out.row.block (hb2'.block P HI.out.row.lt)
      obtain ⟨F2, hF2⟩ : ∃ F2, F2 = (fun k => if k = i then [.string (bs g.name), .slice (some ⟨sK, 0, none⟩) g.more.length g.more.length, .int .i64 sk, .string ss, .int .i64 sn, .slice sa sl sc] else F k) := ⟨_, rfl⟩
      have hR3 : R6 w2 P n i F2 := by
        obtain ⟨cs, h1, h2, h3⟩ := hR2
        exact ⟨cs, h1, h2, fun k hk j hj v hv => h3 k hk j hj v (by rw [hF2] at hv; simpa [show ¬ k = i by omega] using hv)⟩
      have hR4 := hR3.set hlt (.string (bs g.name)) (.slice (some ⟨sK, 0, none⟩) g.more.length g.more.length) (.int .i64 sk) (.string ss) (.int .i64 sn) (.slice sa sl sc) (by rw [hF2]; simp)
      have hPw : w.heap.size ≤ P := HI.out.hP
      have hPr : P < wr.heap.size := HI.out.row.lt
      have hbl : Below w.heap.size w w2 := HI.out.bel.trans (hb2'.mono HI.out.bel.size)
      obtain ⟨u0, y1⟩ := hR2.cells hlt 0 (by omega)
      obtain ⟨u1, y2⟩ := hR2.cells hlt 1 (by omega)
      obtain ⟨u2, y3⟩ := hR2.cells hlt 2 (by omega)
      obtain ⟨u3, y4⟩ := hR2.cells hlt 3 (by omega)
      obtain ⟨u4, y5⟩ := hR2.cells hlt 4 (by omega)
      obtain ⟨u5, y6⟩ := hR2.cells hlt 5 (by omega)
      have z1 := hR2.frozen (i * 6)
      have z2 := hR2.frozen (i * 6 + 1)
      have z3 := hR2.frozen (i * 6 + 2)
      have z4 := hR2.frozen (i * 6 + 3)
      have z5 := hR2.frozen (i * 6 + 4)
      have z6 := hR2.frozen (i * 6 + 5)
      rw [Nat.add_zero] at y1
      obtain ⟨W3, hW3⟩ : ∃ W3, W3 = ((((((w2.setCell ⟨P, i * 6, none⟩ (.string (bs g.name))).setCell ⟨P, i * 6 + 1, none⟩ (.slice (some ⟨sK, 0, none⟩) g.more.length g.more.length)).setCell ⟨P, i * 6 + 2, none⟩ (.int .i64 sk)).setCell ⟨P, i * 6 + 3, none⟩ (.string ss)).setCell ⟨P, i * 6 + 4, none⟩ (.int .i64 sn)).setCell ⟨P, i * 6 + 5, none⟩ (.slice sa sl sc)) := ⟨_, rfl⟩
      have ho : ∀ k, k ≠ P → W3.heap[k]? = w2.heap[k]? := fun k hk => by
        rw [hW3, Below.heap_setCell _ _ _ _ hk, Below.heap_setCell _ _ _ _ hk, Below.heap_setCell _ _ _ _ hk, Below.heap_setCell _ _ _ _ hk, Below.heap_setCell _ _ _ _ hk, Below.heap_setCell _ _ _ _ hk]
      have hVs : V.heap.size = wr.heap.size + 1 := by rw [HV.out]; simp
      have HI3 : Hid (ShQ w W3 P n (i + 1) fs F2) := ⟨by rw [hW3]; exact bl_set (bl_set (bl_set (bl_set (bl_set (bl_set hbl hPw _) hPw _) hPw _) hPw _) hPw _) hPw _, by rw [hW3]; exact hR4, fun k t' hk ht' => by
        rcases Nat.lt_or_ge k i with hki | hki
        · have h1 := (HI.out.kid k t' hki ht').below hb2'
          rw [hF2]
          simp only [show ¬ k = i by omega, if_false]
          exact h1.keep (Nat.le_refl _) (fun x _ _ _ hx _ _ => ho x (by omega))
        · obtain rfl : k = i := by omega
          rw [HT.out] at ht'
          injection ht' with ht'
          subst ht'
          rw [hF2]
          simp only [if_true]
          exact hvs.keep (by omega) (fun x _ _ _ hx _ _ => ho x (by omega)), hPw⟩
      have HW3 := hid hW3
      clear hvs hb2 hb2' hR2 hF2 hR3 hR4 hbl ho hW3 HC HI hVs y0
      go_wp2_with fail
      go_roundw
      case rel => exact ⟨i + 1, F2, by omega, by go_num, by rw [HW3.out] at HI3; exact HI3⟩
      case measure => simp [intOf]; omega
    · obtain rfl : i = n := by omega
      have hlt2 : ¬ (i : Int) < (i : Int) := by omega
      go_wp2_with fail
      go_ret
      exact ⟨P, rfl, ⟨⟨F, by rw [← HN.out]; exact HI.out.row, fun k g hg => (HI.out.kid k g (by rw [HN.out]; exact (List.getElem?_eq_some_iff.1 hg).1) hg).keep (by have := HI.out.hP; omega) (fun _ _ _ _ _ _ _ => rfl)⟩, HI.out.hP⟩, HI.out.bel⟩

end Go.Proofs.YtmmgkdcojkmlcaaGreatDoor
