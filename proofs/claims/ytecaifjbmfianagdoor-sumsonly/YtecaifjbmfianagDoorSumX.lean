/- Plain facts behind Make: what is true is shown; what the tables extend to. attestlaw4.lives. -/
import Derived.Test.YtecaifjbmfianagDoorLawUMakes
namespace Go.Proofs.YtecaifjbmfianagDoor
open Go.RowKit Pol

theorem mke_of {p : Nat} {rows : List (List Int)} {drawn : List Int} (h : mke p rows drawn = 0) : ovr rows = (drawn.length : Int) ∧ rows.length < p := by
  unfold mke at h
  split at h
  · rename_i h1
    split at h
    · rename_i h2; exact ⟨h1, h2⟩
    · omega
  · omega
/-- the tables behind some draws, of a table over v variables -/
structure TbW (p : Nat) (rows : List (List Int)) (drawn : List Int) : Prop where
  pr : Num.Prime p
  h3 : 3 ≤ p
  hm : p ≤ 2147483647
  d1 : 1 ≤ rows.length
  d4 : rows.length ≤ 4
  dp : rows.length < p
  v12 : drawn.length ≤ 12
  lens : ∀ k, k < rows.length → (rat rows k).length = 2 ^ drawn.length
theorem tbW_of {p : Nat} {rows : List (List Int)} {drawn : List Int} (hp : Num.Prime p) (h3 : 3 ≤ p) (hm : p ≤ 2147483647) (h : mke p rows drawn = 0) : TbW p rows drawn := by
  obtain ⟨h1, h2⟩ := mke_of h
  obtain ⟨v, e1, e2, e3, e4, e5⟩ := ovr_of (rows := rows) (by omega)
  have hv : v = drawn.length := by omega
  subst hv
  exact ⟨hp, h3, hm, e3, e4, h2, e1, e5⟩
theorem TbW.len {p : Nat} {rows : List (List Int)} {drawn : List Int} (h : TbW p rows drawn) {i : Nat} (hi : i ≤ drawn.length) : ∀ k, k < (tbs p rows drawn i).length → (rat (tbs p rows drawn i) k).length = 2 ^ (drawn.length - i) := fun k hk => by
  rw [tbs_len] at hk
  exact tbs_lens h.lens i hi k hk
theorem totz_mod {p : Nat} (h3 : 3 ≤ p) (rows : List (List Int)) : totz p rows % (p : Int) = totz p rows := by
  have := totz_bounds p rows h3
  exact Int.emod_eq_of_lt this.1 this.2
/-- what is claimed ahead of each round is the sum -/
theorem TbW.now {p : Nat} {rows : List (List Int)} {drawn : List Int} (h : TbW p rows drawn) (hz : mke p rows drawn = 0) : ∀ i, i ≤ drawn.length → nowz p (totz p rows) (mkR p rows drawn) drawn i = totz p (tbs p rows drawn i)
  | 0, _ => totz_mod h.h3 rows
  | i + 1, hi => by
    rw [nowz, mkR_rat hz (by omega)]
    exact atz_rnd h.pr h.h3 (by rw [tbs_len]; exact h.d1) (h.len (by omega)) rfl (by rw [tbs_len]; exact h.dp) _
/-- what is true is shown -/
theorem TbW.shown {p : Nat} {rows : List (List Int)} {drawn : List Int} (h : TbW p rows drawn) (hz : mke p rows drawn = 0) : ChkP p (totz p rows) (rows.length : Int) (mkR p rows drawn) (mkF p rows drawn) drawn := by
  have hd1 := h.d1
  have hd4 := h.d4
  have hdp := h.dp
  refine ⟨by omega, by omega, by omega, h.v12, mkR_len hz, by rw [mkF_len hz], fun i hi => ?_, fun i hi => ?_, ?_⟩
  · rw [mkR_len hz] at hi
    rw [mkR_rat hz hi, rndl_len, tbs_len]
    omega
  · rw [mkR_len hz] at hi
    rw [h.now hz i (by omega), mkR_rat hz hi]
    refine rnd_ends (h := 2 ^ (drawn.length - (i + 1))) h.h3 (by rw [tbs_len]; exact hd1) (fun k hk => ?_)
    rw [h.len (by omega) k hk, show drawn.length - i = drawn.length - (i + 1) + 1 from by omega, Nat.pow_succ]
    omega
  · rw [mkR_len hz, h.now hz _ (Nat.le_refl _), mkF_len hz]
    unfold totz
    have hh3 := h.h3
    have h0 : (rat (tbs p rows drawn drawn.length) 0).length = 1 := by rw [h.len (Nat.le_refl _) 0 (by rw [tbs_len]; omega), Nat.sub_self]
    rw [h0, emod_eq_iff (by omega), tbs_len]
    simp only [Dom.sm]
    rw [Int.zero_add]
    refine Sum.prz_congr (fun k hk => ?_)
    rw [mkF_at hz hk]
    exact emod_dvd p _
/-- what a table extends to is what is left of it -/
theorem TbW.exts {p : Nat} {rows : List (List Int)} {drawn : List Int} (h : TbW p rows drawn) {k : Nat} (hk : k < rows.length) : ∀ i, i ≤ drawn.length → (p : Int) ∣ Sum.ext (zat (rat rows k)) (zat drawn) drawn.length - Sum.ext (zat (rat (tbs p rows drawn i) k)) (fun j => zat drawn (i + j)) (drawn.length - i)
  | 0, _ => by
    have : Sum.ext (zat (rat (tbs p rows drawn 0) k)) (fun j => zat drawn (0 + j)) (drawn.length - 0) = Sum.ext (zat (rat rows k)) (zat drawn) drawn.length := Sum.ext_same (fun i _ => rfl) (fun j _ => by rw [Nat.zero_add])
    rw [this, Int.sub_self]
    exact Int.dvd_zero _
  | i + 1, hi => by
    have ih := h.exts hk i (by omega)
    obtain ⟨m, hm⟩ : ∃ m, drawn.length - (i + 1) = m := ⟨_, rfl⟩
    rw [show drawn.length - i = m + 1 from by omega, Sum.ext_succ] at ih
    rw [hm]
    have hl : (rat (tbs p rows drawn i) k).length = 2 ^ (m + 1) := by rw [h.len (by omega) k (by rw [tbs_len]; exact hk)]; congr 1; omega
    have hh : 2 ^ (m + 1) / 2 = 2 ^ m := by rw [Nat.pow_succ]; omega
    have e : (p : Int) ∣ Sum.ext (fun x => zat (rat (tbs p rows drawn i) k) x * (1 - zat drawn (i + 0)) + zat (rat (tbs p rows drawn i) k) (x + 2 ^ m) * zat drawn (i + 0)) (fun j => zat drawn (i + (j + 1))) m - Sum.ext (zat (rat (tbs p rows drawn (i + 1)) k)) (fun j => zat drawn (i + 1 + j)) m := by
      refine Sum.ext_congr (fun x hx => ?_) (fun j _ => ?_)
      · rw [tbs, fixr_rat (by rw [tbs_len]; exact hk), fixl_at (by rw [hl, hh]; exact hx), hl, hh, Nat.add_zero]
        have := Int.dvd_neg.2 (emod_dvd p (zat (rat (tbs p rows drawn i) k) x * (1 - zat drawn i) + zat (rat (tbs p rows drawn i) k) (x + 2 ^ m) * zat drawn i))
        rwa [Int.neg_sub] at this
      · rw [show i + (j + 1) = i + 1 + j from by omega, Int.sub_self]
        exact Int.dvd_zero _
    have := Int.dvd_add ih e
    rwa [show ∀ a b c : Int, a - b + (b - c) = a - c from fun a b c => by omega] at this
theorem TbW.final {p : Nat} {rows : List (List Int)} {drawn : List Int} (h : TbW p rows drawn) (hz : mke p rows drawn = 0) {k : Nat} (hk : k < rows.length) : Sum.ext (zat (rat rows k)) (zat drawn) drawn.length % (p : Int) = zat (mkF p rows drawn) k := by
  have hh3 := h.h3
  rw [mkF_at hz hk, emod_eq_iff (by omega)]
  have := h.exts hk drawn.length (Nat.le_refl _)
  rw [Nat.sub_self, Sum.ext_zero] at this
  exact this

theorem lst_lit (w : World) (zs : List Int) : Lst (w.heap.size + 1) (w.alloc (.cells (zs.map (Value.int .i64)).toArray 3)) (some ⟨w.heap.size, 0, none⟩) zs.length zs := by
  refine ⟨fun k hk => ⟨w.heap.size, 0, rfl, by omega, ?_⟩, Nat.le_refl _, fun h => by cases h⟩
  unfold World.cell?
  rw [show (w.alloc (.cells (zs.map (Value.int .i64)).toArray 3)).heap[(⟨w.heap.size, 0 + k, none⟩ : Addr).block]? = some (.cells (zs.map (Value.int .i64)).toArray 3 (0, 0)) from heap_alloc_new w _]
  simp [zat, hk]

set_option maxRecDepth 100000 in
set_option maxHeartbeats 1000000 in
theorem lives4_any (TO : TotAs) (w : World) : Calls Tryd.prog 17 #[] w fun e w' => e = .returned (.bool true) ∧ Below w.heap.size w w' := by
  have HTO := hid TO
  clear TO
  go_enter Tryd.func17, Tryd.ntmps17
  go_wp2_with fail
  refine (plain4_yes 17 w (by decide) (by decide) prime17).mono ?_
  rintro e w1 ⟨b, rfl, hf1, hb1⟩
  obtain ⟨W1, hW1⟩ : ∃ W1, W1 = w1.alloc (.cells #[.int .i64 1, .int .i64 2, .int .i64 3, .int .i64 4] 3) := ⟨_, rfl⟩
  obtain ⟨W2, hW2⟩ : ∃ W2, W2 = W1.alloc (.cells #[.int .i64 1, .int .i64 1, .int .i64 0, .int .i64 2] 3) := ⟨_, rfl⟩
  obtain ⟨W3, hW3⟩ : ∃ W3, W3 = W2.alloc (.cells #[.slice (some ⟨w1.heap.size, 0, none⟩) 4 4, .slice (some ⟨W1.heap.size, 0, none⟩) 4 4] 23) := ⟨_, rfl⟩
  have b1 : Below w1.heap.size w1 W1 := by rw [hW1]; exact (Below.refl _ _).alloc (Nat.le_refl _) _
  have b2 : Below W1.heap.size W1 W2 := by rw [hW2]; exact (Below.refl _ _).alloc (Nat.le_refl _) _
  have b3 : Below W2.heap.size W2 W3 := by rw [hW3]; exact (Below.refl _ _).alloc (Nat.le_refl _) _
  have e1 : W1.heap.size = w1.heap.size + 1 := by rw [hW1]; simp
  have e2 : W2.heap.size = w1.heap.size + 2 := by rw [hW2]; simp [e1]
  have e3 : W3.heap.size = w1.heap.size + 3 := by rw [hW3]; simp [e2]
  have l1 : Lst W1.heap.size W1 (some ⟨w1.heap.size, 0, none⟩) 4 [1, 2, 3, 4] := by rw [e1, hW1]; exact lst_lit w1 [1, 2, 3, 4]
  have l2 : Lst W2.heap.size W2 (some ⟨W1.heap.size, 0, none⟩) 4 [1, 1, 0, 2] := by rw [e2, show w1.heap.size + 2 = W1.heap.size + 1 from by omega, hW2]; exact lst_lit W1 [1, 1, 0, 2]
  have hR : InR W3 (some ⟨W2.heap.size, 0, none⟩) 2 [[1, 2, 3, 4], [1, 1, 0, 2]] := by
    have hfit : ∀ zs : List Int, (∀ z ∈ zs, 0 ≤ z ∧ z ≤ 9) → Fits zs := fun zs hz j hj => by
      have : zat zs j = zs[j] := by simp [zat, hj]
      rw [this]
      have := hz zs[j] (List.getElem_mem hj)
      omega
    refine ⟨by decide, fun k hk => ?_, fun k hk => ?_, ⟨fun k hk => ?_, Nat.le_refl _, fun h => by cases h⟩⟩
    · match k, (show k < 2 by simpa using hk) with
      | 0, _ => exact (show (4 : Nat) ≤ _ by omega)
      | 1, _ => exact (show (4 : Nat) ≤ _ by omega)
    · match k, (show k < 2 by simpa using hk) with
      | 0, _ => exact hfit [1, 2, 3, 4] (by decide)
      | 1, _ => exact hfit [1, 1, 0, 2] (by decide)
    · have hh : ∀ (i : Nat) (v : Value), (#[Value.slice (some ⟨w1.heap.size, 0, none⟩) 4 4, .slice (some ⟨W1.heap.size, 0, none⟩) 4 4] : Array Value)[i]? = some v → W3.cell? ⟨W2.heap.size, i, none⟩ = some v := fun i v hv => by
        rw [hW3]
        unfold World.cell?
        rw [show (W2.alloc (.cells #[.slice (some ⟨w1.heap.size, 0, none⟩) 4 4, .slice (some ⟨W1.heap.size, 0, none⟩) 4 4] 23)).heap[(⟨W2.heap.size, i, none⟩ : Addr).block]? = some (.cells #[.slice (some ⟨w1.heap.size, 0, none⟩) 4 4, .slice (some ⟨W1.heap.size, 0, none⟩) 4 4] 23 (0, 0)) from heap_alloc_new W2 _]
        exact hv
      match k, (show k < 2 by simpa using hk) with
      | 0, _ => exact ⟨W2.heap.size, 0, _, 4, rfl, by omega, hh 0 _ rfl, ((((l1.below b2).mono b2.size).below b3).mono b3.size)⟩
      | 1, _ => exact ⟨W2.heap.size, 0, _, 4, rfl, by omega, hh 1 _ rfl, (l2.below b3).mono b3.size⟩
  have HT := hid (HTO.out 17 b 2 (some ⟨W2.heap.size, 0, none⟩) [[1, 2, 3, 4], [1, 1, 0, 2]] W3 (((hf1.below b1).below b2).below b3) hR)
  have hov : ovr [[1, 2, 3, 4], [1, 1, 0, 2]] = 2 := by
    unfold ovr
    rw [if_pos ⟨by decide, by decide, fun k hk => by
      match k, (show k < 2 by simpa using hk) with
      | 0, _ => rfl
      | 1, _ => rfl⟩]
    exact vrs_yes (v := 2) (by omega) rfl
  have h11 : toz 17 [[1, 2, 3, 4], [1, 1, 0, 2]] = 11 := by
    unfold toz
    rw [hov, if_pos (by omega)]
    decide
  have h00 : toe [[1, 2, 3, 4], [1, 1, 0, 2]] = 0 := by unfold toe; rw [hov, if_pos (by omega)]
  rw [h11, h00, errz_nil, show ([[1, 2, 3, 4], [1, 1, 0, 2]] : List (List Int)).length = 2 from rfl] at HT
  have HB3 : Hid (Below w.heap.size w W3) := ((hb1.trans (b1.mono hb1.size)).trans (b2.mono (by have := hb1.size; omega))).trans (b3.mono (by have := hb1.size; omega))
  rw [e2, hW3, hW2, e1, hW1] at HT
  rw [hW3, hW2, e1, hW1] at HB3
  clear hR l1 l2 b1 b2 b3 hf1 hb1 hov h11 h00
  go_wp2_with fail
  refine HT.out.mono ?_
  rintro e w5 ⟨rfl, hb5⟩
  have HB5 : Hid (Below w.heap.size w w5) := HB3.out.trans (hb5.mono HB3.out.size)
  clear hb5 HT
  go_wp2_with fail
  go_ret
  exact ⟨rfl, HB5.out⟩

end Go.Proofs.YtecaifjbmfianagDoor
