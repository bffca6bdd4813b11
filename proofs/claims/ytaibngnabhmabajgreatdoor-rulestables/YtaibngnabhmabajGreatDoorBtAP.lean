/- attestref8: Sorted, Each. Package rules: how pairs are sorted. attestsame.Sponge, attestlaw3's plain and lives. -/
import Derived.Test.YtaibngnabhmabajGreatDoorBtAO
import Derived.StillTailTactics
import Derived.Test.YtaibngnabhmabajGreatDoorSpgs
import Derived.Test.YtaibngnabhmabajGreatDoorDoms
namespace Go.Proofs.YtaibngnabhmabajGreatDoor
open Go.RowKit

/-- the first i are sorted -/
def Srt (l : List (Int × Int)) (i : Nat) : Prop := ∀ x y, x < y → y < i → cle (cat l x) (cat l y)
/-- .. but for the one at k, which goes down -/
def Ins1 (l : List (Int × Int)) (i k : Nat) : Prop := (∀ x y, x < y → y ≤ i → x ≠ k → y ≠ k → cle (cat l x) (cat l y)) ∧ ∀ y, k < y → y ≤ i → cle (cat l k) (cat l y)
def swp (l : List (Int × Int)) (k m : Nat) : List (Int × Int) := (l.set k (cat l m)).set m (cat l k)
theorem swp_len (l : List (Int × Int)) (k m : Nat) : (swp l k m).length = l.length := by simp [swp]
theorem swp_perm {l : List (Int × Int)} {k m : Nat} (hk : k < l.length) (hm : m < l.length) : (swp l k m).Perm l := by
  have e1 : cat l m = l[m] := by simp [cat, hm]
  have e2 : cat l k = l[k] := by simp [cat, hk]
  unfold swp
  rw [e1, e2]
  exact List.set_set_perm hk hm
theorem swp_at {l : List (Int × Int)} {k m : Nat} (hk : k < l.length) (hm : m < l.length) (j : Nat) : cat (swp l k m) j = if j = m then cat l k else if j = k then cat l m else cat l j := by
  unfold swp
  rw [cat_set (by simpa using hm), cat_set hk]
theorem Ins1.start {l : List (Int × Int)} {i : Nat} (h : Srt l i) : Ins1 l i i := ⟨fun x y h1 h2 _ h4 => h x y h1 (by omega), fun y h1 h2 => by omega⟩
theorem Ins1.zero {l : List (Int × Int)} {i : Nat} (h : Ins1 l i 0) : Srt l (i + 1) := fun x y h1 h2 => by
  by_cases e : x = 0
  · subst e; exact h.2 y h1 (by omega)
  · exact h.1 x y h1 (by omega) e (by omega)
theorem Ins1.stop {l : List (Int × Int)} {i k m : Nat} (h : Ins1 l i k) (hk : k = m + 1) (hki : k ≤ i) (hc : ahd (cat l k) (cat l m) = false) : Srt l (i + 1) := fun x y h1 h2 => by
  have hc' : cle (cat l m) (cat l k) := by simpa [ahd] using hc
  by_cases e : x = k
  · subst e; exact h.2 y h1 (by omega)
  · by_cases e2 : y = k
    · subst e2
      by_cases e3 : x = m
      · subst e3; exact hc'
      · exact cle_trans (h.1 x m (by omega) (by omega) e (by omega)) hc'
    · exact h.1 x y h1 (by omega) e e2
theorem Ins1.step {l : List (Int × Int)} {i k m : Nat} (h : Ins1 l i k) (hk : k = m + 1) (hki : k ≤ i) (hi : i < l.length) (hc : ahd (cat l k) (cat l m) = true) : Ins1 (swp l k m) i m := by
  have hc' : ¬ cle (cat l m) (cat l k) := by simpa [ahd] using hc
  have hlk : k < l.length := by omega
  have hlm : m < l.length := by omega
  refine ⟨fun x y h1 h2 h3 h4 => ?_, fun y h1 h2 => ?_⟩
  · rw [swp_at hlk hlm, swp_at hlk hlm, if_neg h3, if_neg h4]
    by_cases e : x = k
    · rw [if_pos e, if_neg (by omega)]
      exact h.1 m y (by omega) h2 (by omega) (by omega)
    · rw [if_neg e]
      by_cases e2 : y = k
      · rw [if_pos e2]
        exact h.1 x m (by omega) (by omega) e (by omega)
      · rw [if_neg e2]
        exact h.1 x y h1 h2 e e2
  · rw [swp_at hlk hlm, swp_at hlk hlm, if_pos rfl, if_neg (by omega)]
    by_cases e : y = k
    · rw [if_pos e]
      exact (cle_total _ _).resolve_left hc'
    · rw [if_neg e]
      exact h.2 y (by omega) h2
theorem Srt.all {l : List (Int × Int)} (h : Srt l l.length) : l.Pairwise cle := by
  rw [List.pairwise_iff_getElem]
  intro i j hi hj hij
  have := h i j hij hj
  simpa [cat, hi, hj] using this
/-- what Sorted answers -/
def SrtR (L : List (Int × Int)) (w : World) (e : Ending) (w' : World) : Prop := ∃ (l' : List (Int × Int)) (a' : Option Addr) (c' : Nat), e = .returned (.slice a' l'.length c') ∧ l'.Perm L ∧ l'.Pairwise cle ∧ LstC w'.heap.size w' a' c' l' ∧ Below w.heap.size w w' ∧ ∀ b o, a' = some ⟨b, o, none⟩ → w.heap.size ≤ b
/-- the state of Sorted -/
structure SrI (g n i : Nat) (L l : List (Int × Int)) (w wr : World) : Prop where
  len : l.length = n
  perm : l.Perm L
  srt : Srt l i
  row : CRow g wr l
  bel : Below w.heap.size w wr
structure SrJ (g n i k : Nat) (L l : List (Int × Int)) (w wr : World) : Prop where
  len : l.length = n
  perm : l.Perm L
  ins : Ins1 l i k
  row : CRow g wr l
  bel : Below w.heap.size w wr

set_option maxRecDepth 100000 in
set_option maxHeartbeats 4000000 in
theorem rsorted_any (c : Nat) (a : Option Addr) (L : List (Int × Int)) (w : World) (hn : L.length ≤ 8796093022208) (hL : LstC w.heap.size w a c L) :
    Calls Tryz.prog 56 #[.slice a L.length c] w (SrtR L w) := by
  obtain ⟨R, hR⟩ : ∃ R, R = SrtR L w := ⟨_, rfl⟩
  rw [← hR]
  have HR : Hid (∀ e w', SrtR L w e w' → R e w') := fun e w' h => by rw [hR]; exact h
  clear hR
  have HL := hid hL
  obtain ⟨n, hn'⟩ : ∃ n, n = L.length := ⟨_, rfl⟩
  have HN := hid hn'
  have HNL := hid hn
  rw [← hn'] at hn ⊢
  clear hL hn'
  go_enter Tryz.func56, Tryz.ntmps56
  go_wp2_with (at_builtin; refine wpList_copyC w _ rfl rfl _ _ rfl rfl a c L (by rw [← HN.out]; rfl) HNL.out HL.out ?_ ?_)
  · intro v' w2 hcr hb
    rcases crow_of_owns hcr with ⟨rfl, h0⟩ | ⟨g, cap, rfl, hg, hcap, hrow⟩
    · have HE : Hid (SrtR L w (.returned (.slice none 0 0)) w2) := ⟨[], none, 0, rfl, by rw [h0], .nil, ⟨fun k hk => by simp at hk, by simp, fun _ => rfl⟩, hb, fun _ _ e => by cases e⟩
      clear hcr hb h0
      go_wp2_with fail
      go_loopw [4, 5, 6, 7] (fun iv _ _ _ wr => iv = .int .i64 1 ∧ wr = w2) (fun _ _ _ _ _ => 0)
      case atStart => exact ⟨rfl, rfl⟩
      case round =>
        obtain ⟨rfl, rfl⟩ := hrel
        go_wp2_with fail
        exact HR.out _ _ HE.out
    · rw [← HN.out]
      have HC := hid hcap
      have HGG := hid hg
      rw [← HN.out] at hcap
      have hn2 : (n : Int) ≤ 8796093022208 := by omega
      by_cases h1 : n ≤ 1
      · have HE : Hid (SrtR L w (.returned (.slice (some ⟨g, 0, none⟩) n cap)) w2) := ⟨L, _, cap, by rw [HN.out], .refl _, (by
          have hl : L.length ≤ 1 := by rw [← HN.out]; exact h1
          match L, hl with
          | [], _ => exact .nil
          | [x], _ => exact List.pairwise_singleton _ _), hrow.lst HC.out, hb, fun b o e => by injection e with e; injection e with e1; have := HGG.out; omega⟩
        have h1' : ¬ (1 : Int) < (n : Int) := by omega
        clear hcr hb hrow hcap
        go_wp2_with fail
        go_loopw [4, 5, 6, 7] (fun iv _ _ _ wr => iv = .int .i64 1 ∧ wr = w2) (fun _ _ _ _ _ => 0)
        case atStart => exact ⟨rfl, rfl⟩
        case round =>
          obtain ⟨rfl, rfl⟩ := hrel
          go_wp2_with fail
          exact HR.out _ _ HE.out
      · have H0 : Hid (SrI g n 1 L L w w2) := ⟨HN.out.symm, .refl _, fun x y hxy hy => by omega, hrow, hb⟩
        have hgw : w.heap.size ≤ g := hg
        clear hcr hb hrow hg
        go_wp2_with fail
        go_loopw [4, 5, 6, 7] (fun iv _ _ _ wr => ∃ (i : Nat) (l : List (Int × Int)), 1 ≤ i ∧ i ≤ n ∧ iv = .int .i64 i ∧ Hid (SrI g n i L l w wr)) (fun iv _ _ _ _ => n - (intOf iv).toNat)
        case atStart => exact ⟨1, L, Nat.le_refl _, by omega, rfl, H0⟩
        case round =>
          obtain ⟨i, l, hi1, hi, rfl, HI⟩ := hrel
          by_cases hlt : i < n
          · have hlt2 : (i : Int) < (n : Int) := by omega
            have his : IntKind.i64.wrap ((i : Int) + 1) = (i : Int) + 1 := by rw [IntKind.wrap_i64]; omega
            have HJ0 : Hid (SrJ g n i i L l w wr) := ⟨HI.out.len, HI.out.perm, Ins1.start HI.out.srt, HI.out.row, HI.out.bel⟩
            clear HI
            go_wp2_with fail
            go_loopw [5, 6, 7] (fun kv _ _ wq => ∃ (k : Nat) (l : List (Int × Int)), k ≤ i ∧ kv = .int .i64 k ∧ Hid (SrJ g n i k L l w wq)) (fun kv _ _ _ => (intOf kv).toNat)
            case atStart => exact ⟨i, l, Nat.le_refl _, rfl, HJ0⟩
            case round =>
              obtain ⟨k, l, hk, rfl, HJ⟩ := hrel
              by_cases hk0 : 0 < k
              · have hk2 : (0 : Int) < (k : Int) := by omega
                have hk3 : (k : Int) < (n : Int) := by omega
                obtain ⟨m, hm⟩ : ∃ m, m = k - 1 := ⟨_, rfl⟩
                have e1 : (k : Int) - 1 = (m : Int) := by omega
                have hm3 : (m : Int) < (n : Int) := by omega
                have hwm : IntKind.i64.wrap (m : Int) = (m : Int) := by rw [IntKind.wrap_i64]; omega
                have hm0 : (0 : Int) ≤ (m : Int) := by omega
                have hkm : k = m + 1 := by omega
                have HKM := hid hkm
                have hkl : k < l.length := by rw [HJ.out.len]; omega
                have hml : m < l.length := by rw [HJ.out.len]; omega
                have HH := hid (And.intro hkl hml)
                obtain ⟨k0, k1⟩ := HJ.out.row.cells k hkl
                obtain ⟨m0, m1⟩ := HJ.out.row.cells m hml
                have hgl := HJ.out.row.lt
                have HA : Hid (∀ W, Below wr.heap.size wr W → Calls Tryz.prog 97 #[.agg #[.int .i64 (cat l k).1, .int .i64 (cat l k).2], .agg #[.int .i64 (cat l m).1, .int .i64 (cat l m).2]] W fun e w' => e = .returned (.bool (ahd (cat l k) (cat l m))) ∧ Below wr.heap.size wr w') :=
                  fun W h => (rahead_any (cat l k) (cat l m) W).mono fun e w' ⟨h1, h2⟩ => ⟨h1, h.trans (h2.mono h.size)⟩
                have HKe : Hid (∀ W, Below wr.heap.size wr W → W.cell? ⟨g, k * 2, none⟩ = some (.int .i64 (cat l k).1) ∧ W.cell? ⟨g, k * 2 + 1, none⟩ = some (.int .i64 (cat l k).2) ∧ W.cell? ⟨g, m * 2, none⟩ = some (.int .i64 (cat l m).1) ∧ W.cell? ⟨g, m * 2 + 1, none⟩ = some (.int .i64 (cat l m).2)) := fun W h =>
                  ⟨(h.cell (p := ⟨g, k * 2, none⟩) hgl).trans k0, (h.cell (p := ⟨g, k * 2 + 1, none⟩) hgl).trans k1, (h.cell (p := ⟨g, m * 2, none⟩) hgl).trans m0, (h.cell (p := ⟨g, m * 2 + 1, none⟩) hgl).trans m1⟩
                have hd1 : Below wr.heap.size wr wr.drew := (Below.refl _ _).drew
                have HG := hid hgl
                obtain ⟨x0, hx0⟩ : ∃ x, x = (cat l k).1 := ⟨_, rfl⟩
                obtain ⟨x1, hx1⟩ : ∃ x, x = (cat l k).2 := ⟨_, rfl⟩
                obtain ⟨y0, hy0⟩ : ∃ x, x = (cat l m).1 := ⟨_, rfl⟩
                obtain ⟨y1, hy1⟩ : ∃ x, x = (cat l m).2 := ⟨_, rfl⟩
                have HX := hid (And.intro (And.intro hx0 hx1) (And.intro hy0 hy1))
                obtain ⟨ah, hah⟩ : ∃ ah, ah = ahd (cat l k) (cat l m) := ⟨_, rfl⟩
                have HAH := hid hah
                rw [← hx0, ← hx1, ← hy0, ← hy1, ← hah] at HA
                rw [← hx0, ← hx1, ← hy0, ← hy1] at HKe
                clear hx0 hx1 hy0 hy1 hah k0 k1 m0 m1 hkm hkl hml hgl hm hk0
                go_wp2_with fail
                go_region_held3 (fun W => W.cell? ⟨g, k * 2, none⟩ = some (.int .i64 x0) ∧ W.cell? ⟨g, k * 2 + 1, none⟩ = some (.int .i64 x1) ∧ W.cell? ⟨g, m * 2, none⟩ = some (.int .i64 y0) ∧ W.cell? ⟨g, m * 2 + 1, none⟩ = some (.int .i64 y1)) (exact HKe.out _ (by assumption))
                  (first
                    | (go_at_call 97; refine (HA.out _ (by assumption)).mono ?_; rintro e w' ⟨rfl, hbw⟩))
                have HB' := hid hbw
                clear HKe HA hbw hd1
                cases ah with
                | false =>
                  have HI1 : Hid (SrI g n (i + 1) L l w w') := ⟨HJ.out.len, HJ.out.perm, Ins1.stop HJ.out.ins HKM.out hk (by rw [← HAH.out]), HJ.out.row.below HB'.out HG.out, HJ.out.bel.trans (HB'.out.mono HJ.out.bel.size)⟩
                  clear HJ
                  go_wp2_with fail
                  go_roundw
                  case rel => exact ⟨i + 1, l, by omega, by omega, by go_num, HI1⟩
                  case measure => simp [intOf]; omega
                | true =>
                  have hrow' := HJ.out.row.below HB'.out HG.out
                  obtain ⟨k0, k1⟩ := hrow'.cells k HH.out.1
                  obtain ⟨m0, m1⟩ := hrow'.cells m HH.out.2
                  have sf := hrow'.soft
                  have hgl := hrow'.lt
                  have hg1 : ¬ g = w'.heap.size := by omega
                  have hg2 : ¬ w'.heap.size = g := by omega
                  obtain ⟨W1, hW1⟩ : ∃ W1, W1 = (w'.setCell ⟨g, k * 2, none⟩ (.int .i64 y0)).setCell ⟨g, k * 2 + 1, none⟩ (.int .i64 y1) := ⟨_, rfl⟩
                  obtain ⟨W2, hW2⟩ : ∃ W2, W2 = (W1.setCell ⟨g, m * 2, none⟩ (.int .i64 x0)).setCell ⟨g, m * 2 + 1, none⟩ (.int .i64 x1) := ⟨_, rfl⟩
                  obtain ⟨W3, hW3⟩ : ∃ W3, W3 = W2.alloc (.cells #[.int .i64 x0, .int .i64 x1] 149) := ⟨_, rfl⟩
                  have HJ1 : Hid (SrJ g n i m L (swp l k m) w W3) := by
                    obtain ⟨⟨ex0, ex1⟩, ey0, ey1⟩ := HX.out
                    have r2 := hrow'.set (cat l m) HH.out.1
                    rw [← ey0, ← ey1, ← hW1] at r2
                    have r3 := r2.set (cat l k) (k := m) (by rw [List.length_set]; exact HH.out.2)
                    rw [← ex0, ← ex1, ← hW2] at r3
                    have hba : Below W2.heap.size W2 W3 := by rw [hW3]; exact (Below.refl _ _).alloc (Nat.le_refl _) _
                    have b1 : Below w.heap.size w w' := HJ.out.bel.trans (HB'.out.mono HJ.out.bel.size)
                    have b2 : Below w.heap.size w W2 := by
                      rw [hW2, hW1]
                      exact (((b1.setCell (p := ⟨g, k * 2, none⟩) hgw _).setCell (p := ⟨g, k * 2 + 1, none⟩) hgw _).setCell (p := ⟨g, m * 2, none⟩) hgw _).setCell (p := ⟨g, m * 2 + 1, none⟩) hgw _
                    have b3 : Below w.heap.size w W3 := b2.trans (hba.mono b2.size)
                    replace r3 := r3.below hba r3.lt
                    exact ⟨by rw [swp_len]; exact HJ.out.len, (swp_perm HH.out.1 HH.out.2).trans HJ.out.perm, Ins1.step HJ.out.ins HKM.out hk (by rw [HJ.out.len]; omega) HAH.out.symm, r3, b3⟩
                  obtain ⟨⟨ex0, ex1⟩, ey0, ey1⟩ := HX.out
                  rw [← ex0] at k0
                  rw [← ex1] at k1
                  rw [← ey0] at m0
                  rw [← ey1] at m1
                  have s0 := sf (k * 2)
                  have s1 := sf (k * 2 + 1)
                  have s2 := sf (m * 2)
                  have s3 := sf (m * 2 + 1)
                  have nk1 : ¬ k * 2 + 1 = m * 2 := by have := HKM.out; omega
                  have nk2 : ¬ k * 2 = m * 2 := by have := HKM.out; omega
                  have nk3 : ¬ k * 2 + 1 = m * 2 + 1 := by have := HKM.out; omega
                  have nk4 : ¬ k * 2 = m * 2 + 1 := by have := HKM.out; omega
                  rw [hW1] at hW2
                  rw [hW2] at hW3
                  clear HJ HX hrow' sf ex0 ex1 ey0 ey1 hW1 hW2 HAH
                  go_wp2_with fail
                  rw [← hW3]
                  go_roundw
                  case rel => exact ⟨m, _, by have := HKM.out; omega, by go_num, HJ1⟩
                  case measure => simp [intOf]; have := HKM.out; omega
              · obtain rfl : k = 0 := by omega
                have HI1 : Hid (SrI g n (i + 1) L l w wr) := ⟨HJ.out.len, HJ.out.perm, Ins1.zero HJ.out.ins, HJ.out.row, HJ.out.bel⟩
                clear HJ hk0
                go_wp2_with fail
                go_roundw
                case rel => exact ⟨i + 1, l, by omega, by omega, by go_num, HI1⟩
                case measure => simp [intOf]; omega
          · obtain rfl : i = n := by omega
            have hlt2 : ¬ (i : Int) < (i : Int) := by omega
            have HE : Hid (SrtR L w (.returned (.slice (some ⟨g, 0, none⟩) i cap)) wr) := ⟨l, _, cap, by rw [HI.out.len], HI.out.perm, Srt.all (by rw [HI.out.len]; exact HI.out.srt), HI.out.row.lst (by rw [HI.out.len]; exact hcap), HI.out.bel, fun b o e => by injection e with e; injection e with e1; have := HGG.out; omega⟩
            clear HI
            go_wp2_with fail
            exact HR.out _ _ HE.out
  · intro w2 h0 hb
    have HE : Hid (SrtR L w (.returned (.slice (some ⟨w.heap.size, 0, none⟩) 0 0)) w2) := ⟨[], _, 0, rfl, by rw [h0], .nil, ⟨fun k hk => by simp at hk, by simp, fun _ => rfl⟩, hb, fun b o e => by injection e with e; injection e with e1; omega⟩
    clear hb h0
    go_wp2_with fail
    go_loopw [4, 5, 6, 7] (fun iv _ _ _ wr => iv = .int .i64 1 ∧ wr = w2) (fun _ _ _ _ _ => 0)
    case atStart => exact ⟨rfl, rfl⟩
    case round =>
      obtain ⟨rfl, rfl⟩ := hrel
      go_wp2_with fail
      exact HR.out _ _ HE.out

end Go.Proofs.YtaibngnabhmabajGreatDoor

namespace Go.Proofs.YtaibngnabhmabajGreatDoor
open Go.RowKit Go.Maps

set_option maxHeartbeats 1000000 in
theorem cmpor_any (b : Nat) (x y : Int) (w : World) (h0 : w.cell? ⟨b, 0, none⟩ = some (.int .i64 x)) (h1 : w.cell? ⟨b, 1, none⟩ = some (.int .i64 y)) :
    Calls Tryz.prog 137 #[.slice (some ⟨b, 0, none⟩) 2 2] w fun e w' => e = .returned (.int .i64 (if x ≠ 0 then x else y)) ∧ w' = w := by
  by_cases hx : x = 0
  · subst hx
    rw [if_neg (by simp)]
    by_cases hy : y = 0
    · subst hy
      go_enter Tryz.func137, Tryz.ntmps137
      go_wp2_with fail
      go_loop [5, 8] (fun _ iv => iv = .int .i64 0 ∨ iv = .int .i64 1 ∨ iv = .int .i64 2) (fun _ iv => 2 - (intOf iv).toNat)
      case atStart => exact .inl rfl
      case round =>
        rcases hrel with rfl | rfl | rfl
        · go_wp2_with fail
          go_round
          case rel => exact .inr (.inl rfl)
          case measure => simp [intOf]
        · go_wp2_with fail
          go_round
          case rel => exact .inr (.inr rfl)
          case measure => simp [intOf]
        · go_wp2_with fail
          go_ret
          exact ⟨rfl, rfl⟩
    · have hyb : (y != 0) = true := by simp [hy]
      clear hy
      go_enter Tryz.func137, Tryz.ntmps137
      go_wp2_with fail
      go_loop [5, 8] (fun _ iv => iv = .int .i64 0 ∨ iv = .int .i64 1) (fun _ iv => 2 - (intOf iv).toNat)
      case atStart => exact .inl rfl
      case round =>
        rcases hrel with rfl | rfl
        · go_wp2_with fail
          go_round
          case rel => exact .inr rfl
          case measure => simp [intOf]
        · go_wp2_with fail
          go_ret
          exact ⟨rfl, rfl⟩
  · have hxb : (x != 0) = true := by simp [hx]
    rw [if_pos hx]
    clear hx
    go_enter Tryz.func137, Tryz.ntmps137
    go_wp2_with fail
    go_loop [5, 8] (fun _ iv => iv = .int .i64 0) (fun _ iv => 2 - (intOf iv).toNat)
    case atStart => rfl
    case round =>
      subst hrel
      go_wp2_with fail
      go_ret
      exact ⟨rfl, rfl⟩

/-- the order of pairs -/
def cf3 (x y : Int × Int) : Int := if Lib.compareInt x.1 y.1 ≠ 0 then Lib.compareInt x.1 y.1 else Lib.compareInt x.2 y.2
theorem cmpi_cases (x y : Int) : (x < y ∧ Lib.compareInt x y = -1) ∨ (x = y ∧ Lib.compareInt x y = 0) ∨ (y < x ∧ Lib.compareInt x y = 1) := by
  unfold Lib.compareInt
  by_cases h1 : x < y
  · simp [h1]
  · by_cases h2 : y < x
    · simp [h1, h2]
    · have : x = y := by omega
      simp [this]
theorem lt3 (x y : Int × Int) : ltOf cf3 x y = !decide (cle y x) := by
  have h1 := cmpi_cases x.1 y.1
  have h2 := cmpi_cases x.2 y.2
  have e : ltOf cf3 x y = decide (cf3 x y < 0) := rfl
  rw [e]
  unfold cf3 cle
  rcases h1 with ⟨a, b⟩ | ⟨a, b⟩ | ⟨a, b⟩
  · rw [b]
    have : ¬ (y.1 < x.1 ∨ y.1 = x.1 ∧ y.2 ≤ x.2) := by omega
    simp [this]
  · rw [b]
    rcases h2 with ⟨c, d⟩ | ⟨c, d⟩ | ⟨c, d⟩
    · rw [d]
      have : ¬ (y.1 < x.1 ∨ y.1 = x.1 ∧ y.2 ≤ x.2) := by omega
      simp [this]
    · rw [d]
      have : (y.1 < x.1 ∨ y.1 = x.1 ∧ y.2 ≤ x.2) := by omega
      simp [this]
    · rw [d]
      have : (y.1 < x.1 ∨ y.1 = x.1 ∧ y.2 ≤ x.2) := by omega
      simp [this]
  · rw [b]
    have : (y.1 < x.1 ∨ y.1 = x.1 ∧ y.2 ≤ x.2) := by omega
    simp [this]
theorem swo3 : Sort.SWO (ltOf cf3) where
  irrefl x := by rw [lt3]; simp [cle_refl]
  trans x y z h1 h2 := by
    rw [lt3] at *
    have h1' : ¬ cle y x := by simpa using h1
    have h2' : ¬ cle z y := by simpa using h2
    have : ¬ cle z x := fun h => by unfold cle at *; omega
    simp [this]
  ntrans x y z h1 h2 := by
    rw [lt3] at *
    have h1' : cle y x := by simpa using h1
    have h2' : cle z y := by simpa using h2
    have := cle_trans h2' h1'
    simp [this]

set_option maxRecDepth 100000 in
set_option maxHeartbeats 1000000 in
/-- sortedPairs' own comparison -/
theorem csort_any (x y : Int × Int) (W : World) : Calls Tryz.prog 136 #[.agg #[.int .i64 x.1, .int .i64 x.2], .agg #[.int .i64 y.1, .int .i64 y.2]] W fun e w' => e = .returned (.int .i64 (cf3 x y)) ∧ ∃ q os', w' = Sort.grow (W.drewN q) os' := by
  have hmx : Tryz.prog.follows .mixedOrders = true := by kernel_rfl
  have H1 := hid (fun W' => cmpi_any x.1 y.1 W')
  have H2 := hid (fun W' => cmpi_any x.2 y.2 W')
  have H3 := hid (fun (b : Nat) (W' : World) h0 h1 => cmpor_any b (Lib.compareInt x.1 y.1) (Lib.compareInt x.2 y.2) W' h0 h1)
  have HE : Hid (cf3 x y = if Lib.compareInt x.1 y.1 ≠ 0 then Lib.compareInt x.1 y.1 else Lib.compareInt x.2 y.2) := rfl
  generalize cf3 x y = r at *
  generalize Lib.compareInt x.1 y.1 = r1 at *
  generalize Lib.compareInt x.2 y.2 = r2 at *
  rw [← HE.out] at H3
  generalize x.1 = x0 at *
  generalize x.2 = x1 at *
  generalize y.1 = y0 at *
  generalize y.2 = y1 at *
  obtain ⟨W0, hW0⟩ : ∃ W0, W0 = (W.alloc (.cells #[.int .i64 x0, .int .i64 x1] 149)).alloc (.cells #[.int .i64 y0, .int .i64 y1] 149) := ⟨_, rfl⟩
  have hb1 : W0.heap[W.heap.size]? = some (.cells #[.int .i64 x0, .int .i64 x1] 149 (0, 0)) := by rw [hW0]; exact (Below.heap_alloc _ _ _ (by simp)).trans (heap_alloc_new W _)
  have hb2 : W0.heap[W.heap.size + 1]? = some (.cells #[.int .i64 y0, .int .i64 y1] 149 (0, 0)) := by rw [hW0]; have := heap_alloc_new (W.alloc (.cells #[.int .i64 x0, .int .i64 x1] 149)) (.cells #[.int .i64 y0, .int .i64 y1] 149); rwa [World.size_alloc] at this
  have a0 : W0.cell? ⟨W.heap.size, 0, none⟩ = some (.int .i64 x0) := by simp [World.cell?, hb1]
  have a1 : W0.cell? ⟨W.heap.size, 1, none⟩ = some (.int .i64 x1) := by simp [World.cell?, hb1]
  have b0 : W0.cell? ⟨W.heap.size + 1, 0, none⟩ = some (.int .i64 y0) := by simp [World.cell?, hb2]
  have b1 : W0.cell? ⟨W.heap.size + 1, 1, none⟩ = some (.int .i64 y1) := by simp [World.cell?, hb2]
  have HW0 : Hid (W0 = Sort.grow W #[.cells #[.int .i64 x0, .int .i64 x1] 149, .cells #[.int .i64 y0, .int .i64 y1] 149]) := by
    unfold Hid; rw [hW0, Sort.alloc_eq_grow, Sort.alloc_eq_grow, Sort.grow_grow]; rfl
  clear hb1 hb2 HE
  go_enter Tryz.func136, Tryz.ntmps136
  go_wp2_with fail
  rw [← hW0]
  clear hW0
  go_still_tail 10, hmx
  still_call (H1.out _)
  (repeat still_step)
  still_call (H2.out _)
  (repeat still_step)
  refine wpStill_nil ?_
  go_wp2_with fail
  refine (H3.out _ _ ?_ ?_).mono ?_
  · have hk : ((W0.alloc (.cells #[.int .i64 r1, .int .i64 r2] 3)).drew).heap[W0.heap.size]? = some (.cells #[.int .i64 r1, .int .i64 r2] 3 (0, 0)) := heap_alloc_new W0 _
    simp only [World.cell?, hk]
    rfl
  · have hk : ((W0.alloc (.cells #[.int .i64 r1, .int .i64 r2] 3)).drew).heap[W0.heap.size]? = some (.cells #[.int .i64 r1, .int .i64 r2] 3 (0, 0)) := heap_alloc_new W0 _
    simp only [World.cell?, hk]
    rfl
  rintro e w2 ⟨rfl, hw2⟩
  have hw3 := hw2.symm
  subst hw3
  go_wp2_with fail
  go_ret
  refine ⟨rfl, ?_⟩
  rw [HW0.out, Sort.alloc_eq_grow, Sort.grow_grow]
  exact ⟨1, _, rfl⟩

/-- what slices.SortFunc does to pairs -/
theorem srtP (base : Nat) (v : Value) (l : List (Int × Int)) (W : World) (h : CelR base W v l) (hl : l.length ≤ 8796093022208) (hb : base ≤ W.heap.size) :
    Calls Tryz.prog 87 #[v, .func (.func 136) #[] #[]] W fun e w' => e = .returned (.tuple #[]) ∧ ∃ l' : List (Int × Int), l'.Perm l ∧ l'.Pairwise cle ∧ CelR base w' v l' ∧ Below base W w' := by
  have h' := h
  rcases h'.2 with ⟨rfl, h0⟩ | ⟨g, cap, cur, rfl, hbg, hg, hn, hm, hs, ht⟩
  · have hl0 : l = [] := List.length_eq_zero_iff.1 h0
    subst hl0
    have hcon := AnyF.slices_SortFunc_none Tryz.sortC none 0 (.func (.func 136) #[] #[]) W
    refine Calls.mono hcon ?_
    rintro e w' ⟨rfl, rfl⟩
    exact ⟨rfl, [], .refl _, .nil, h, .refl _ _⟩
  · have hg0 : g < W.heap.size := by
      rcases Nat.lt_or_ge g W.heap.size with h | h
      · exact h
      · rw [Array.getElem?_eq_none h] at hg
        cases hg
    have hH : Sort.HoldsK enc2 2 W g 0 l.toArray := by
      intro t hts
      have hts' : t < l.length * 2 := by simpa using hts
      rw [Nat.zero_add]
      have hcu : t < cur.size := by rw [hs]; omega
      have hc := celv_flat l t hts'
      rw [← ht, List.getElem?_take_of_lt hts'] at hc
      constructor
      · unfold World.cell?
        rw [hg]
        simpa using hc
      · unfold World.frozen?
        rw [hg]
        simp
    have hcon := AnyQ.slices_SortFunc Tryz.sortC 2 Tryz.isAgg149 Tryz.sizeOf149 enc2 (fun _ => rfl) (fun x v hv => by simp [enc2] at hv; rcases hv with rfl | rfl <;> rfl) cf3 swo3 136 #[] g 0 cap l.toArray W (enters_of Tryz.func136 (by kernel_rfl) rfl) (fun _ _ _ _ x y => csort_any x y _) hH hg0 (by simp; omega)
    have hsz : l.toArray.size = l.length := by simp
    refine Calls.mono (by rw [hsz] at hcon; exact hcon) ?_
    rintro e w' ⟨rfl, d', n, os, hp, hso, rfl⟩
    rw [← hsz] at hp
    obtain ⟨hd, hpm⟩ := srt_perm hp
    refine ⟨rfl, d'.toList, hpm, ?_, srt_cel h hg0 n d' os hd, srt_below hbg hg0 n d' os⟩
    rw [List.pairwise_iff_getElem]
    intro i j hi hj hij
    have hi' : i < d'.size := by simpa using hi
    have hj' : j < d'.size := by simpa using hj
    have := hso i j (Nat.zero_le _) hij (by omega)
    rw [lt3, getElem!_pos d' i hi', getElem!_pos d' j hj'] at this
    simpa using this

end Go.Proofs.YtaibngnabhmabajGreatDoor

namespace Go.Proofs.YtaibngnabhmabajGreatDoor
open Go.RowKit

end Go.Proofs.YtaibngnabhmabajGreatDoor
