
import Derived.Test.YtlhjifpomchnfaaGreatDoorPoAM
import Derived.Test.YtlhjifpomchnfaaGreatDoorPoBE
import Derived.Test.YtlhjifpomchnfaaGreatDoorPoBF
set_option maxRecDepth 1000000
set_option maxHeartbeats 8000000
namespace Go.Proofs.YtlhjifpomchnfaaGreatDoor
open Go.RowKit
def tbx (p : Nat) (t at' : List Int) (i : Nat) : List Int := rat (tbs p [t] at' i) 0
theorem tbx_succ (p : Nat) (t at' : List Int) (i : Nat) : tbx p t at' (i + 1) = fixl p (tbx p t at' i) (zat at' i) := by
 unfold tbx
 rw [tbs, fixr_rat (by rw [tbs_len]; simp)]
theorem one_lens {t : List Int} {v : Nat} (h : t.length = 2 ^ v) : ∀ k, k < [t].length -> (rat [t] k).length = 2 ^ v := fun k hk => by
 obtain rfl : k = 0 := by simp at hk; omega
 exact h
theorem tbx_len {p v : Nat} {t at' : List Int} (h : t.length = 2 ^ v) {i : Nat} (hi : i <= v) : (tbx p t at' i).length = 2 ^ (v - i) := tbs_lens (one_lens h) i hi 0 (by simp)
theorem tbx_fits {p : Nat} (h3 : 3 <= p) (hm : p <= 2147483647) {t at' : List Int} (h : Fits t) (i : Nat) : Fits (tbx p t at' i) := tbs_fits h3 hm (rows := [t]) (fun k hk => by
 obtain rfl : k = 0 := by simp at hk; omega
 exact h) i 0 (by simp)
theorem tbx_end {p : Nat} (hp : Num.Prime p) (h3 : 3 <= p) (hm : p <= 2147483647) {t at' : List Int} (hv : at'.length <= 12) (h : t.length = 2 ^ at'.length) : Sum.ext (zat t) (zat at') at'.length % (p : Int) = zat (tbx p t at' at'.length) 0 % (p : Int) := by
 have hz : mke p [t] at' = 0 := by
  unfold mke
  rw [if_pos ?_, if_pos (by simp; omega)]
  unfold ovr
  rw [if_pos ⟨by simp, by simp, fun k hk => by rw [one_lens h k hk]; exact h.symm⟩]
  exact vrs_yes hv h
 have hw : TbW p [t] at' := ⟨hp, h3, hm, by simp, by simp, by simp; omega, hv, one_lens h⟩
 have := hw.final hz (k := 0) (by simp)
 rw [mkF_at hz (by simp)] at this
 exact this
theorem ext_as : ExtAs := by
 intro p b c1 c2 a1 a2 t at' W hF h1 h2
 have h3 := hF.h3
 have hm := hF.hm
 have hl1 := h1.len
 have hl2 := h2.len
 have HI := hid (istable_any t.length c1 a1 W (by omega))
 by_cases h : 0 <= vrs t.length
 ·obtain ⟨v, e1, e2, e3⟩ := vrs_of h
  have HV := hid (vars_any t.length v c1 a1 W e1 e2 hF.tab)
  rw [decide_eq_true h] at HI
  by_cases hv : at'.length = v
  ·have he : exe t at' = 0 := by unfold exe; rw [if_pos (by omega)]
   have hz : exz p t at' = zat (tbx p t at' v) 0 % (p : Int) := by
    unfold exz
    rw [if_pos (by omega), tbx_end hF.pr h3 hm (by omega) (by rw [hv]; exact e2), hv]
   have t1 : ((v : Int) != (v : Int)) = false := by simp
   have HLN : Hid (∀ i, i <= v -> (tbx p t at' i).length = 2 ^ (v - i)) := fun i hi => tbx_len e2 hi
   have HFT := hid (fun i => tbx_fits (at' := at') h3 hm h1.fit i)
   have HFF := hid hF.toInF
   have H1 := hid h1
   have H2 := hid h2
   have HAL := hid hv
   rw [he, hz, errz_nil, hv]
   have hNN : t.length = 2 ^ (v - 0) := by rw [Nat.sub_zero]; exact e2
   obtain ⟨n, hn⟩ := exE (t.length)
   rw [<- hn] at HI HV hNN ⊢
   have HN := hid hNN
   clear hF h1 h2 he hz h e2 e3 hv hl1 hl2 hn hNN
   go_enter Tryz.func18, Tryz.ntmps18
   go_wp2_with fail
   refine HI.out.mono ?_
   rintro e w1 ⟨rfl, rfl⟩
   go_wp2_with fail
   refine HV.out.mono ?_
   rintro e w2 ⟨rfl, rfl⟩
   clear HI HV
   go_wp2_with fail
   go_loopw [1, 23] (fun tv iv wr => ∃ (k L c' : Nat) (a' : Option Addr), k <= v /\ iv = .int .i64 k /\ tv = .slice a' L c' /\ Hid (L = 2 ^ (v - k) /\ InL wr a' c' (tbx p t at' k) /\ Below w2.heap.size w2 wr)) (fun _ iv _ => v - (intOf iv).toNat)
   case atStart => exact ⟨0, n, c1, a1, by omega, rfl, rfl, HN.out, H1.out, Below.refl _ _⟩
   case round =>
    obtain ⟨k, L, c', a', hk, rfl, rfl, hI⟩ := hrel
    by_cases hlt : k < v
    ·have hlt2 : (k : Int) < (v : Int) := by omega
     have hks : IntKind.i64.wrap ((k : Int) + 1) = (k : Int) + 1 := by rw [IntKind.wrap_i64]; omega
     obtain ⟨ba, oa, rfl, hba, hca⟩ := H2.out.lst.row k (by rw [HAL.out]; exact hlt)
     have hca2 := (hI.out.2.2.cell (p := ⟨ba, oa + k, none⟩) hba).trans hca
     obtain ⟨f1, f2⟩ := H2.out.fit.all k
     obtain ⟨M, hM⟩ := exE (2 ^ (v - (k + 1)))
     have HX : Hid (Calls Tryz.prog 61 #[.pointer (some ⟨b, 0, none⟩), .slice a' L c', .int .i64 (zat at' k)] wr fun e w' => e = .returned (.slice (some ⟨wr.heap.size, 0, none⟩) M M) /\ InL w' (some ⟨wr.heap.size, 0, none⟩) M (tbx p t at' (k + 1)) /\ Below wr.heap.size wr w') := by
      have hlk := HLN.out k hk
      have hlk1 := HLN.out (k + 1) hlt
      have hhalf : (tbx p t at' k).length / 2 = M := by
       rw [hlk, hM, show v - k = v - (k + 1) + 1 from by omega, Nat.pow_succ]
       omega
      have := fixed_any p b c' a' (tbx p t at' k) (zat at' k) wr wr.heap.size h3 hm (HFF.out.below hI.out.2.2).cell hI.out.2.1.len (HFT.out k) f1 f2 hI.out.2.1.lst.row (Nat.le_refl _)
      rw [hhalf, hlk, <- hI.out.1, <- tbx_succ] at this
      refine this.mono ?_
      rintro e w' ⟨rfl, hA, hb'⟩
      have hmm : (tbx p t at' (k + 1)).length = M := by rw [hlk1, hM]
      refine ⟨rfl, ⟨?_, HFT.out (k + 1), hA.lst hmm (fun _ _ => rfl) hA.lt⟩, hb'⟩
      have := hI.out.2.1.len
      omega
     have HBR := hid hI.out.2.2
     have HM := hid hM
     generalize zat at' k = r at *
     clear hI hca hM f1 f2
     go_wp2_with fail
     refine HX.out.mono ?_
     rintro e w3 ⟨rfl, hL3, hb3⟩
     have HE : Hid (M = 2 ^ (v - (k + 1)) /\ InL w3 (some ⟨wr.heap.size, 0, none⟩) M (tbx p t at' (k + 1)) /\ Below w2.heap.size w2 w3) := ⟨HM.out, hL3, HBR.out.trans (hb3.mono HBR.out.size)⟩
     clear hL3 hb3 HX HBR
     go_wp2_with fail
     go_roundw
     case rel => exact ⟨k + 1, M, M, some ⟨wr.heap.size, 0, none⟩, by omega, by go_num, rfl, HE⟩
     case measure => simp [intOf]; omega
    ·obtain rfl : k = v := by omega
     have hlt2 : ¬ (k : Int) < (k : Int) := by omega
     obtain ⟨hL1, hL2, hL3⟩ := hI.out
     rw [Nat.sub_self, Nat.pow_zero] at hL1
     have hlk := HLN.out k (Nat.le_refl _)
     rw [Nat.sub_self, Nat.pow_zero] at hlk
     obtain ⟨ba, oa, rfl, hba, hca⟩ := hL2.lst.row 0 (by rw [hlk]; omega)
     rw [Nat.add_zero] at hca
     obtain ⟨f1, f2⟩ := hL2.fit.all 0
     have HOF := hid (of_any p b (zat (tbx p t at' k) 0) wr h3 hm (HFF.out.below hL3).cell f1 f2)
     have HBE := hid hL3
     subst hL1
     obtain ⟨y, hy⟩ := exE (zat (tbx p t at' k) 0)
     rw [<- hy] at HOF hca
     have HY := hid hy
     clear hI hL2 hL3 hlk f1 f2 hba hy
     go_wp2_with fail
     refine HOF.out.mono ?_
     rintro e w3 ⟨rfl, rfl⟩
     go_wp2_with fail
     go_ret2
     exact ⟨by rw [<- HY.out]; rfl, HBE.out⟩
  ·have he : exe t at' = 2 := by unfold exe; rw [if_neg (by omega)]
   have hz : exz p t at' = 0 := by unfold exz; rw [if_neg (by omega)]
   have t1 : ((at'.length : Int) != (v : Int)) = true := by simp; omega
   rw [he, hz, errz_some (by decide)]
   generalize t.length = n at *
   generalize at'.length = m at *
   clear hF h1 h2 he hz h e1 e2 e3 hv
   go_enter Tryz.func18, Tryz.ntmps18
   go_wp2_with fail
   refine HI.out.mono ?_
   rintro e w1 ⟨rfl, rfl⟩
   go_wp2_with fail
   refine HV.out.mono ?_
   rintro e w2 ⟨rfl, rfl⟩
   go_wp2_with fail
   go_ret2
   exact ⟨rfl, Below.refl _ _⟩
 ·have he : exe t at' = 2 := by unfold exe; rw [if_neg (by omega)]
  have hz : exz p t at' = 0 := by unfold exz; rw [if_neg (by omega)]
  rw [he, hz, errz_some (by decide)]
  rw [decide_eq_false h] at HI
  generalize t.length = n at *
  generalize at'.length = m at *
  clear hF h1 h2 he hz h
  go_enter Tryz.func18, Tryz.ntmps18
  go_wp2_with fail
  refine HI.out.mono ?_
  rintro e w1 ⟨rfl, rfl⟩
  go_wp2_with fail
  go_ret2
  exact ⟨rfl, Below.refl _ _⟩
end Go.Proofs.YtlhjifpomchnfaaGreatDoor
