/- What fold.Check must answer; attestref5.Check of anything. -/
import Derived.Test.YtfppkjpgihnibaaGreatDoorFolk
import Derived.Test.YtfppkjpgihnibaaGreatDoorChnz
namespace Go.Proofs.YtfppkjpgihnibaaGreatDoor
open Go.RowKit

/-- rows in blocks of their own kinds -/
structure LRT (w : World) (a : Option Addr) (cap : Nat) (s : List (List Int)) : Prop where
  row : ∀ k, k < s.length → ∃ b o ak ck, a = some ⟨b, o, none⟩ ∧ (∃ cs f, w.heap[b]? = some (.cells cs 22 f)) ∧ w.cell? ⟨b, o + k, none⟩ = some (.slice ak (rat s k).length ck) ∧ NumL w ak ck (rat s k)
  room : s.length ≤ cap
  nil : a = none → cap = 0
theorem NumL.ki {w w' : World} {a : Option Addr} {c : Nat} {l : List Int} (h : NumL w a c l) (k : KI w w') : NumL w' a c l := h.blocks k.1 (fun g cs f hg => k.2 g cs _ f hg (.inl rfl))
theorem LRT.ki {w w' : World} {a : Option Addr} {cap : Nat} {s : List (List Int)} (h : LRT w a cap s) (k : KI w w') : LRT w' a cap s :=
  ⟨fun j hj => by
    obtain ⟨b, o, ak, ck, h1, ⟨cs, f, h2⟩, h3, h4⟩ := h.row j hj
    have e := k.2 b cs _ f h2 (.inr rfl)
    exact ⟨b, o, ak, ck, h1, ⟨cs, f, e.trans h2⟩, (World.cell?_of_block (w := w) (a := ⟨b, o + j, none⟩) e).trans h3, h4.ki k⟩, h.room, h.nil⟩
theorem LRT.lst {w : World} {a : Option Addr} {cap : Nat} {s : List (List Int)} (h : LRT w a cap s) : LstR w.heap.size w a cap s :=
  ⟨fun j hj => by
    obtain ⟨b, o, ak, ck, h1, ⟨cs, f, h2⟩, h3, h4⟩ := h.row j hj
    exact ⟨b, o, ak, ck, h1, (Array.getElem?_eq_some_iff.1 h2).1, h3, h4.1⟩, h.room, h.nil⟩
theorem OwnI.lrt {base : Nat} {w : World} {v : Value} {rs : List (List Int)} (h : OwnI base w v rs) : ∃ a c, v = .slice a rs.length c ∧ LRT w a c rs := by
  obtain ⟨vals, h1, h2⟩ := h
  rcases h1.2 with ⟨rfl, h0⟩ | ⟨g, cap, cur, rfl, hb, hg, hn, hm, hs, ht⟩
  · exact ⟨none, 0, by rw [h0], fun k hk => by omega, by omega, fun _ => rfl⟩
  · refine ⟨some ⟨g, 0, none⟩, cap, rfl, fun k hk => ?_, hn, fun e => by cases e⟩
    obtain ⟨u, h3, h4⟩ := h2 k hk
    obtain ⟨a, c, rfl, hl⟩ := h4
    refine ⟨g, 0, a, c, rfl, ⟨_, _, hg⟩, ?_, hl⟩
    rw [Nat.zero_add, h1.cellAt k (by omega), h3]
/-- Openings in blocks of their own kinds -/
structure LFT (w : World) (a : Option Addr) (cap : Nat) (s : List OnZ) : Prop where
  row : ∀ k, k < s.length → ∃ b o ap cp ar cr an' cn, a = some ⟨b, o, none⟩ ∧ (∃ cs f, w.heap[b]? = some (.cells cs 107 f)) ∧ w.cell? ⟨b, o + k * 3, none⟩ = some (.slice ap (onat s k).ps.length cp) ∧ w.cell? ⟨b, o + k * 3 + 1, none⟩ = some (.slice ar (onat s k).rows.length cr) ∧ w.cell? ⟨b, o + k * 3 + 2, none⟩ = some (.slice an' (onat s k).nodes.length cn) ∧ NumL w ap cp (onat s k).ps ∧ LRT w ar cr (onat s k).rows ∧ LRT w an' cn (onat s k).nodes
  room : s.length ≤ cap
  nil : a = none → cap = 0
theorem LFT.ko {w w' : World} {a : Option Addr} {cap : Nat} {s : List OnZ} (h : LFT w a cap s) (k : KO w w') : LFT w' a cap s :=
  ⟨fun j hj => by
    obtain ⟨b, o, ap, cp, ar, cr, an', cn, h1, ⟨cs, f, h2⟩, h3, h4, h5, h6, h7, h8⟩ := h.row j hj
    have e := k.2 b cs f h2
    exact ⟨b, o, ap, cp, ar, cr, an', cn, h1, ⟨cs, f, e.trans h2⟩, (World.cell?_of_block (w := w) (a := ⟨b, o + j * 3, none⟩) e).trans h3, (World.cell?_of_block (w := w) (a := ⟨b, o + j * 3 + 1, none⟩) e).trans h4, (World.cell?_of_block (w := w) (a := ⟨b, o + j * 3 + 2, none⟩) e).trans h5, h6.ki k.1, h7.ki k.1, h8.ki k.1⟩, h.room, h.nil⟩
theorem LFT.lst {w : World} {a : Option Addr} {cap : Nat} {s : List OnZ} (h : LFT w a cap s) : LstF w.heap.size w a cap s :=
  ⟨fun j hj => by
    obtain ⟨b, o, ap, cp, ar, cr, an', cn, h1, ⟨cs, f, h2⟩, h3, h4, h5, h6, h7, h8⟩ := h.row j hj
    exact ⟨b, o, ap, cp, ar, cr, an', cn, h1, (Array.getElem?_eq_some_iff.1 h2).1, h3, h4, h5, h6.1, h7.lst, h8.lst⟩, h.room, h.nil⟩
theorem OwnK.lft {base : Nat} {w : World} {v : Value} {os : List OnZ} (h : OwnK base w v os) : ∃ a c, v = .slice a os.length c ∧ LFT w a c os := by
  obtain ⟨vals, h1, h2⟩ := h
  rcases h1.2 with ⟨rfl, h0⟩ | ⟨g, cap, cur, rfl, hb, hg, hn, hm, hs, ht⟩
  · exact ⟨none, 0, by rw [h0], fun k hk => by omega, by omega, fun _ => rfl⟩
  · refine ⟨some ⟨g, 0, none⟩, cap, rfl, fun k hk => ?_, hn, fun e => by cases e⟩
    obtain ⟨vp, vr, vn, e1, e2, e3, e4, e5, e6⟩ := h2 k hk
    obtain ⟨ap, cp, rfl, l1⟩ := e4
    obtain ⟨ar, cr, rfl, l2⟩ := e5.lrt
    obtain ⟨an', cn, rfl, l3⟩ := e6.lrt
    have hc : ∀ j u, vals[j]? = some u → w.cell? ⟨g, 0 + j, none⟩ = some u := fun j u hu => by
      have := h1.cells (g := g) rfl j u hu
      have hadd : (⟨g, 0, none⟩ : Addr).add j = ⟨g, 0 + j, none⟩ := by unfold Addr.add; split <;> simp_all
      rw [hadd] at this
      exact this
    exact ⟨g, 0, ap, cp, ar, cr, an', cn, rfl, ⟨_, _, hg⟩, hc _ _ e1, by rw [Nat.add_assoc]; exact hc _ _ e2, by rw [Nat.add_assoc]; exact hc _ _ e3, l1, l2, l3⟩

/-- a Folded in memory -/
structure FdAt (w : World) (a1 a2 a3 : Option Addr) (c1 c2 c3 : Nat) (roots : List (List Int)) (last : List Int) (os : List OnZ) : Prop where
  r : LRT w a1 c1 roots
  l : NumL w a2 c2 last
  o : LFT w a3 c3 os
theorem FdAt.ko {w w' : World} {a1 a2 a3 : Option Addr} {c1 c2 c3 : Nat} {roots : List (List Int)} {last : List Int} {os : List OnZ} (h : FdAt w a1 a2 a3 c1 c2 c3 roots last os) (k : KO w w') : FdAt w' a1 a2 a3 c1 c2 c3 roots last os := ⟨h.r.ki k.1, h.l.ki k.1, h.o.ko k⟩
/-- a Folded that can be read -/
structure FdL (w : World) (a1 a2 a3 : Option Addr) (c1 c2 c3 : Nat) (roots : List (List Int)) (last : List Int) (os : List OnZ) : Prop where
  r : LstR w.heap.size w a1 c1 roots
  l : Lst w.heap.size w a2 c2 last
  o : LstF w.heap.size w a3 c3 os
/-- a Folded that can be read whatever becomes of chains -/
def FdC (w : World) (a1 a2 a3 : Option Addr) (c1 c2 c3 : Nat) (roots : List (List Int)) (last : List Int) (os : List OnZ) : Prop := ∀ w' : World, w.heap.size ≤ w'.heap.size → (∀ (b : Nat) (cs : Array Value) (t : TypeId) (f : Nat × Nat), w.heap[b]? = some (.cells cs t f) → t ≠ 94 → w'.heap[b]? = w.heap[b]?) → FdL w' a1 a2 a3 c1 c2 c3 roots last os
theorem FdAt.fdc {w : World} {a1 a2 a3 : Option Addr} {c1 c2 c3 : Nat} {roots : List (List Int)} {last : List Int} {os : List OnZ} (h : FdAt w a1 a2 a3 c1 c2 c3 roots last os) : FdC w a1 a2 a3 c1 c2 c3 roots last os := fun w' hs e => by
  have k : KO w w' := ⟨⟨hs, fun b cs t f hb ht => e b cs t f hb (by rcases ht with rfl | rfl <;> decide)⟩, fun b cs f hb => e b cs _ f hb (by decide)⟩
  have h2 := h.ko k
  exact ⟨h2.r.lst, h2.l.1, h2.o.lst⟩
/-- it isn't too great -/
structure FdB (roots : List (List Int)) (last : List Int) (os : List OnZ) : Prop where
  r1 : roots.length ≤ 5864062014634
  r2 : ∀ k, k < roots.length → (rat roots k).length ≤ 17592186043904
  r3 : FitsR roots
  l1 : last.length ≤ 17592186043904
  l2 : Fits last
  o1 : os.length ≤ 1954687338211
  o2 : ∀ k, k < os.length → (onat os k).ps.length ≤ 17592186043904 ∧ (onat os k).rows.length ≤ 5864062014634 ∧ (onat os k).nodes.length ≤ 5864062014634 ∧ (∀ j, j < (onat os k).rows.length → (rat (onat os k).rows j).length ≤ 17592186043904) ∧ (∀ j, j < (onat os k).nodes.length → (rat (onat os k).nodes j).length ≤ 17592186043904) ∧ Fits (onat os k).ps ∧ FitsR (onat os k).rows ∧ FitsR (onat os k).nodes
theorem FdB.f5 {roots : List (List Int)} {last : List Int} {os : List OnZ} (h : FdB roots last os) : FitsF5 os := fun k hk => by
  obtain ⟨h1, h2, h3, _, _, _, h7, h8⟩ := h.o2 k hk
  exact ⟨by omega, by omega, by omega, h7, h8⟩

open Classical in
/-- where the chain goes, the places, and whether it is shown -/
noncomputable def cko (q n K : Nat) (r s k asked : Int) (roots : List (List Int)) (last : List Int) (os : List OnZ) (D : List Int) : List Int × List Int × Bool :=
  if fz5 (2 ^ K) k asked ≠ 0 ∨ roots.length ≠ k.toNat.log2 - 2 then (D, [], false)
  else (pld q n asked.toNat (ckL q n roots last D (k.toNat.log2 - 2)), if CkP q n K k.toNat.log2 r s roots last os D asked.toNat then (ckA q n K roots last D (k.toNat.log2 - 2) asked.toNat, true) else ([], false))
theorem fz5_says {K : Nat} {k asked : Int} (hK : K ≤ 16) (h : fz5 (2 ^ K) k asked = 0) : ∃ J a : Nat, k = ((2 ^ J : Nat) : Int) ∧ asked = (a : Int) ∧ J + 1 ≤ K ∧ 1 ≤ a ∧ a ≤ 64 := by
  unfold fz5 at h
  split at h
  · rename_i hh
    obtain ⟨h1, h2, h3, h4⟩ := hh
    have hle : 2 ^ K ≤ 2 ^ 16 := Nat.pow_le_pow_right (by omega) hK
    obtain ⟨J, h5, h6⟩ := (twb_iff (by omega)).1 h2
    obtain ⟨a, rfl⟩ := Int.eq_ofNat_of_zero_le (show 0 ≤ asked by omega)
    refine ⟨J, a, h6, rfl, ?_, by omega, by omega⟩
    have h7 : 2 ^ (J + 1) ≤ 2 ^ K := by rw [Nat.pow_succ]; omega
    exact (Nat.pow_le_pow_iff_right (by omega)).1 h7
  · omega
theorem ckA_len (q n K : Nat) (roots : List (List Int)) (last D : List Int) (m a : Nat) : (ckA q n K roots last D m a).length = a := ls_len _ _

theorem rcheck5_all (q n K rch n0 : Nat) (r s k asked : Int) (ar al ao : Option Addr) (cr cl co : Nat) (roots : List (List Int)) (last : List Int) (os : List OnZ) (D : List Int) (w : World) (h5 : 5 ≤ q) (h4 : q ≤ 2147483647) (hpn : Spo.PowIs q n) (hK : K ≤ 16) (hr0 : 0 ≤ r) (hr1 : r < q) (hs0 : 0 ≤ s) (hs1 : s < q)
    (hD : Dig D) (hch : RCh q w rch D) (hn0 : n0 ≤ rch) (hB : FdB roots last os) (hlr : LstR n0 w ar cr roots) (hll : Lst n0 w al cl last) (hlo : LstF n0 w ao co os) :
    Calls Tryz.prog 18 #[.pointer (some ⟨rch, 0, none⟩), .agg #[.int .i64 q, .int .i64 ((2 ^ K : Nat) : Int), .int .i64 s, .int .i64 r], .int .i64 k, .int .i64 asked, .agg #[.slice ar roots.length cr, .slice al last.length cl, .slice ao os.length co]] w fun e w' =>
      ∃ av cv, e = .returned (.tuple #[.slice av (cko q n K r s k asked roots last os D).2.1.length cv, .bool (cko q n K r s k asked roots last os D).2.2]) ∧ Lst w'.heap.size w' av cv (cko q n K r s k asked roots last os D).2.1 ∧ RCh q w' rch (cko q n K r s k asked roots last os D).1 ∧ w.grownBy w' (some rch) := by
  have hle : 2 ^ K ≤ 2 ^ 16 := Nat.pow_le_pow_right (by omega) hK
  by_cases hz : fz5 (2 ^ K) k asked = 0
  · obtain ⟨J, a, rfl, rfl, hJ, ha1, ha⟩ := fz5_says hK hz
    have hlg : (((2 ^ J : Nat) : Int)).toNat.log2 = J := by rw [Int.toNat_natCast]; exact Nat.log2_two_pow
    by_cases hm : roots.length = J - 2
    · refine (rcheck5_any q n K J rch a n0 r s ar al ao cr cl co roots last os D w h5 h4 hpn hK hJ ha1 ha hr0 hr1 hs0 hs1 hD.1 hD.2 hch hn0 hB.r3 hB.r2 hlr hB.l1 hB.l2 hll hB.f5 hlo hm).mono ?_
      rintro e w' ⟨g1, g2, g3, g4⟩
      have hc : ¬ (fz5 (2 ^ K) ((2 ^ J : Nat) : Int) (a : Int) ≠ 0 ∨ roots.length ≠ ((2 ^ J : Nat) : Int).toNat.log2 - 2) := by rw [hlg]; rintro (h | h); exact h hz; exact h hm
      unfold cko
      rw [if_neg hc, hlg, Int.toNat_natCast]
      by_cases hp : CkP q n K J r s roots last os D a
      · rw [if_pos hp]
        obtain ⟨av, cv, e1, e2⟩ := g3 hp
        refine ⟨av, cv, ?_, e2, g1, g2⟩
        rw [e1, ckA_len]
      · rw [if_neg hp]
        exact ⟨none, 0, g4 hp, (numL_nil _).1, g1, g2⟩
    · refine (rcheck5_roots q K J rch a roots.length r s ar cr (.slice al last.length cl) (.slice ao os.length co) w hK hJ ha1 ha hm).mono ?_
      rintro e w' ⟨rfl, hb⟩
      unfold cko
      rw [if_pos (by rw [hlg]; exact Or.inr hm)]
      exact ⟨none, 0, rfl, (numL_nil _).1, hch.below hb, gb_below hb⟩
  · refine (rcheck5_bad rch (2 ^ K) (q : Int) s r k asked (.slice ar roots.length cr) (.slice al last.length cl) (.slice ao os.length co) w (by omega) hz).mono ?_
    rintro e w' ⟨rfl, hb⟩
    unfold cko
    rw [if_pos (Or.inl hz)]
    exact ⟨none, 0, rfl, (numL_nil _).1, hch.below hb, gb_below hb⟩

theorem cko_len (q n K : Nat) (r s k asked : Int) (roots : List (List Int)) (last : List Int) (os : List OnZ) (D : List Int) (hK : K ≤ 16) : (cko q n K r s k asked roots last os D).2.1.length ≤ 64 := by
  unfold cko
  split
  · simp
  · rename_i h
    have hz : fz5 (2 ^ K) k asked = 0 := Classical.byContradiction fun hh => h (Or.inl hh)
    obtain ⟨J, a, _, rfl, _, _, ha⟩ := fz5_says hK hz
    split
    · show (ckA _ _ _ _ _ _ _ _).length ≤ 64
      rw [ckA_len, Int.toNat_natCast]; exact ha
    · simp
theorem cko_dig (q n K : Nat) (r s k asked : Int) (roots : List (List Int)) (last : List Int) (os : List OnZ) (D : List Int) (h3 : 3 ≤ q) (h4 : q ≤ 2147483647) (hD : Dig D) : Dig (cko q n K r s k asked roots last os D).1 := by
  unfold cko
  split
  · exact hD
  · show Dig (pld _ _ _ _)
    cases asked.toNat with
    | zero => exact dig_digl h3 h4 _ _
    | succ i => exact dig_digl h3 h4 _ _

/-- what fold.Check must answer -/
def OckAs : Prop := ∀ (N0 q n dd b d s bs c K : Nat) (r t k asked : Int) (a1 a2 a3 : Option Addr) (c1 c2 c3 : Nat) (roots : List (List Int)) (last : List Int) (os : List OnZ) (D : List Int) (W : World), (∀ W', Below N0 W W' → DO W' q b d (2 ^ K) r t) → SpgOk q n dd → SpgAt W s bs q n dd → s < N0 → bs < N0 → PCh N0 q n W c D → Dig D → FdB roots last os → FdC W a1 a2 a3 c1 c2 c3 roots last os → -9223372036854775808 ≤ k → k ≤ 9223372036854775807 → -9223372036854775808 ≤ asked → asked ≤ 9223372036854775807 →
  Calls Tryz.prog 17 #[.pointer (some ⟨s, 0, none⟩), .pointer (some ⟨c, 0, none⟩), .pointer (some ⟨d, 0, none⟩), .int .i64 k, .int .i64 asked, .agg #[.slice a1 roots.length c1, .slice a2 last.length c2, .slice a3 os.length c3]] W fun e w' =>
    ∃ av cv, e = .returned (.tuple #[.slice av (cko q n K r t k asked roots last os D).2.1.length cv, .bool (cko q n K r t k asked roots last os D).2.2]) ∧ NumL w' av cv (cko q n K r t k asked roots last os D).2.1 ∧ PCh N0 q n w' c (cko q n K r t k asked roots last os D).1 ∧ W.grownBy w' (some c)

end Go.Proofs.YtfppkjpgihnibaaGreatDoor
