
import Derived.Test.YtlhjifpomchnfaaGreatDoorPoBE
set_option maxRecDepth 1000000
set_option maxHeartbeats 8000000
namespace Go.Proofs.YtlhjifpomchnfaaGreatDoor
open Go.RowKit
theorem tbs_len (p : Nat) (rows : List (List Int)) (drawn : List Int) (i : Nat) : (tbs p rows drawn i).length = rows.length := by
 induction i with
 | zero => rfl
 | succ i ih => rw [tbs, fixr_len, ih]
theorem tbs_lens {p : Nat} {rows : List (List Int)} {drawn : List Int} {v : Nat} (h : ∀ k, k < rows.length -> (rat rows k).length = 2 ^ v) : ∀ i, i <= v -> ∀ k, k < rows.length -> (rat (tbs p rows drawn i) k).length = 2 ^ (v - i)
 | 0, _, k, hk => by rw [Nat.sub_zero]; exact h k hk
 | i + 1, hi, k, hk => by
  rw [tbs, fixr_rat (by rw [tbs_len]; exact hk), fixl_len, tbs_lens h i (by omega) k hk, show v - i = v - (i + 1) + 1 from by omega, Nat.pow_succ]
  omega
theorem tbs_fits {p : Nat} (h3 : 3 <= p) (hm : p <= 2147483647) {rows : List (List Int)} {drawn : List Int} (h : ∀ k, k < rows.length -> Fits (rat rows k)) : ∀ i k, k < rows.length -> Fits (rat (tbs p rows drawn i) k)
 | 0, k, hk => h k hk
 | i + 1, k, hk => by
  rw [tbs]
  exact fixr_fits h3 hm _ _ k (by rw [fixr_len, tbs_len]; exact hk)
theorem mkF_at {p : Nat} {rows : List (List Int)} {drawn : List Int} (h : mke p rows drawn = 0) {k : Nat} (hk : k < rows.length) : zat (mkF p rows drawn) k = zat (rat (tbs p rows drawn drawn.length) k) 0 % (p : Int) := by unfold mkF; rw [if_pos h, ls_at _ _ _ hk]
open Go.RowKit Pol
structure TbW (p : Nat) (rows : List (List Int)) (drawn : List Int) : Prop where
 pr : Num.Prime p
 h3 : 3 <= p
 hm : p <= 2147483647
 d1 : 1 <= rows.length
 d4 : rows.length <= 4
 dp : rows.length < p
 v12 : drawn.length <= 12
 lens : ∀ k, k < rows.length -> (rat rows k).length = 2 ^ drawn.length
theorem TbW.len {p : Nat} {rows : List (List Int)} {drawn : List Int} (h : TbW p rows drawn) {i : Nat} (hi : i <= drawn.length) : ∀ k, k < (tbs p rows drawn i).length -> (rat (tbs p rows drawn i) k).length = 2 ^ (drawn.length - i) := fun k hk => by
 rw [tbs_len] at hk
 exact tbs_lens h.lens i hi k hk
theorem TbW.exts {p : Nat} {rows : List (List Int)} {drawn : List Int} (h : TbW p rows drawn) {k : Nat} (hk : k < rows.length) : ∀ i, i <= drawn.length -> (p : Int) ∣ Sum.ext (zat (rat rows k)) (zat drawn) drawn.length - Sum.ext (zat (rat (tbs p rows drawn i) k)) (fun j => zat drawn (i + j)) (drawn.length - i)
 | 0, _ => by
  have : Sum.ext (zat (rat (tbs p rows drawn 0) k)) (fun j => zat drawn (0 + j)) (drawn.length - 0) = Sum.ext (zat (rat rows k)) (zat drawn) drawn.length := Sum.ext_same (fun i _ => rfl) (fun j _ => by rw [Nat.zero_add])
  rw [this, Int.sub_self]
  exact Int.dvd_zero _
 | i + 1, hi => by
  have ih := h.exts hk i (by omega)
  obtain ⟨m, hm⟩ : ∃ m, drawn.length - (i + 1) = m := ⟨_, rfl⟩
  rw [show drawn.length - i = m + 1 from by omega, Sum.ext_succ] at ih
  rw [hm]
  have hl : (rat (tbs p rows drawn i) k).length = 2 ^ (m + 1) := by rw [h.len (by omega) k (by rw [tbs_len]; exact hk)]; congr 1; omega
  have hh : 2 ^ (m + 1) / 2 = 2 ^ m := by rw [Nat.pow_succ]; omega
  have e : (p : Int) ∣ Sum.ext (fun x => zat (rat (tbs p rows drawn i) k) x * (1 - zat drawn (i + 0)) + zat (rat (tbs p rows drawn i) k) (x + 2 ^ m) * zat drawn (i + 0)) (fun j => zat drawn (i + (j + 1))) m - Sum.ext (zat (rat (tbs p rows drawn (i + 1)) k)) (fun j => zat drawn (i + 1 + j)) m := by
   refine Sum.ext_congr (fun x hx => ?_) (fun j _ => ?_)
   ·rw [tbs, fixr_rat (by rw [tbs_len]; exact hk), fixl_at (by rw [hl, hh]; exact hx), hl, hh, Nat.add_zero]
    have := Int.dvd_neg.2 (emod_dvd p (zat (rat (tbs p rows drawn i) k) x * (1 - zat drawn i) + zat (rat (tbs p rows drawn i) k) (x + 2 ^ m) * zat drawn i))
    rwa [Int.neg_sub] at this
   ·rw [show i + (j + 1) = i + 1 + j from by omega, Int.sub_self]
    exact Int.dvd_zero _
  have := Int.dvd_add ih e
  rwa [show ∀ a b c : Int, a - b + (b - c) = a - c from fun a b c => by omega] at this
theorem TbW.final {p : Nat} {rows : List (List Int)} {drawn : List Int} (h : TbW p rows drawn) (hz : mke p rows drawn = 0) {k : Nat} (hk : k < rows.length) : Sum.ext (zat (rat rows k)) (zat drawn) drawn.length % (p : Int) = zat (mkF p rows drawn) k := by
 have hh3 := h.h3
 rw [mkF_at hz hk, emod_eq_iff (by omega)]
 have := h.exts hk drawn.length (Nat.le_refl _)
 rw [Nat.sub_self, Sum.ext_zero] at this
 exact this
end Go.Proofs.YtlhjifpomchnfaaGreatDoor
