/- Programs as text: how numbers are written. Programs as text: what does not hang on where a name stands; levels; numbers. -/
import Derived.Test.YthpkcageimhgaaaDoorSqAT
import Derived.Lib.ItoaLen
import Derived.Test.YthpkcageimhgaaaDoorSqAP
import Derived.Test.YthpkcageimhgaaaDoorSqAQ
namespace Go.Proofs.YthpkcageimhgaaaDoor
open Go.RowKit

/-- the library's table of powers of ten -/
def PowW (w : World) : Prop := Lib.TabIs Tryd.prog w "internal/strconv.uint64pow10" .u64 Lib.pow10Tab
theorem Tryd.gpow : Tryd.prog.globalNamed "internal/strconv.uint64pow10" = some 1 := by kernel_rfl
theorem PowW.below {n : Nat} {w w' : World} (h : PowW w) (hb : Below n w w') (hn : 1 < n) : PowW w' := by
  unfold PowW Lib.TabIs World.var? at *
  rw [Tryd.gpow] at h ⊢
  simp only [Option.bind_some] at h ⊢
  rw [hb.block _ hn]
  exact h
theorem PowW.lt {w : World} (h : PowW w) : 1 < w.heap.size := by
  unfold PowW Lib.TabIs World.var? at h
  rw [Tryd.gpow] at h
  simp only [Option.bind_some] at h
  rcases Nat.lt_or_ge 1 w.heap.size with g | g
  · exact g
  · rw [Array.getElem?_eq_none g] at h; cases h
theorem PowW.keep (w w' : World) (h : PowW w) (hb : Below w.heap.size w w') : PowW w' := h.below hb h.lt
/-- a number as text -/
def itN (n : Nat) : List UInt8 := Lib.itoa (n : Int)
theorem itN_any (n : Nat) (w : World) (hn : n ≤ 9223372036854775807) (h : PowW w) : Calls Tryd.prog 29 #[.int .i64 (n : Int)] w fun e w' => e = .returned (.string (bs (itN n))) ∧ Below w.heap.size w w' := by
  refine (Tryd.strconv_Itoa (n : Int) (by omega) (by omega) w h).mono ?_
  rintro e w' ⟨rfl, k, os, rfl⟩
  refine ⟨by simp [bs, itN], ⟨rfl, rfl, rfl, by simp [Sort.grow], fun j hj => ?_⟩⟩
  show ((w.drewN k).heap ++ os)[j]? = _
  rw [Array.getElem?_append_left (by exact hj)]
  rfl
theorem nd_le : ∀ (k u : Nat), u < 10 ^ (k + 1) → Lib.nDigits u ≤ k + 1
  | 0, u, h => by rw [Lib.nDigits_small (by omega)]; exact Nat.le_refl _
  | k + 1, u, h => by
    rw [Lib.nDigits]
    split
    · omega
    · have := nd_le k (u / 10) (by rw [Nat.pow_succ] at h; omega)
      omega
theorem itN_len (n : Nat) (h : n ≤ 9223372036854775807) : (itN n).length ≤ 20 := by
  unfold itN
  rw [Lib.itoa_nonneg, Lib.decDigits_length]
  have := nd_le 18 n (by omega)
  omega

end Go.Proofs.YthpkcageimhgaaaDoor

namespace Go.Proofs.YthpkcageimhgaaaDoor

theorem knd_er : ∀ t : Tr, knd (er t) = knd t
  | .node k nm a n kids => by rw [er]; rfl
theorem ers_len : ∀ ts : List Tr, (ers ts).length = ts.length
  | [] => by rw [ers]
  | t :: r => by rw [ers, List.length_cons, List.length_cons, ers_len r]
mutual
theorem inT_er (it : Nat → List UInt8) : ∀ t : Tr, inT it (er t) = inT it t
  | .node k nm a n kids => by rw [er, inT, inT, inTs_ers it kids]
theorem inTs_ers (it : Nat → List UInt8) : ∀ ts : List Tr, inTs it (ers ts) = inTs it ts
  | [] => by rw [ers]
  | t :: r => by rw [ers, inTs, inTs, inT_er it t, inTs_ers it r, knd_er]
end
mutual
theorem tsz_er : ∀ t : Tr, tsz (er t) = tsz t
  | .node k nm a n kids => by rw [er, tsz, tsz, tszs_ers kids]
theorem tszs_ers : ∀ ts : List Tr, tszs (ers ts) = tszs ts
  | [] => by rw [ers]
  | t :: r => by rw [ers, tszs, tszs, tsz_er t, tszs_ers r]
end
mutual
theorem lk_er (sig : List UInt8 → Nat → Bool) : ∀ (t : Tr) (known : List (List UInt8)), lk sig (er t) known = none ↔ lk sig t known = none
  | .node k nm a n kids, known => by
    rw [er, lk, lk, ers_len]
    by_cases h : onf sig k nm kids.length known ≠ 0
    · rw [if_pos h, if_pos h]; simp
    · rw [if_neg h, if_neg h]; exact lks_ers sig k nm known kids 0
theorem lks_ers (sig : List UInt8 → Nat → Bool) (k : Nat) (nm : List UInt8) (known : List (List UInt8)) : ∀ (ts : List Tr) (i : Nat), lks sig k nm known (ers ts) i = none ↔ lks sig k nm known ts i = none
  | [], i => by rw [ers]
  | t :: r, i => by
    rw [ers, lks, lks]
    have h := lk_er sig t (if k = 9 ∧ i = 1 then nm :: known else known)
    cases h1 : lk sig (er t) (if k = 9 ∧ i = 1 then nm :: known else known) with
    | none => rw [h.1 h1]; exact lks_ers sig k nm known r (i + 1)
    | some e =>
      cases h2 : lk sig t (if k = 9 ∧ i = 1 then nm :: known else known) with
      | none => rw [h.2 h2] at h1; cases h1
      | some e' => simp
end
theorem nmC_names {ms ms' : List (List UInt8 × Nat)} (h : ms'.map (·.1) = ms.map (·.1)) : ∀ j, nmC ms' j = nmC ms j
  | 0 => by rw [nmC, nmC]
  | j + 1 => by
    rw [nmC, nmC, nmC_names h j]
    have e : (ms'.map (·.1))[j]? = (ms.map (·.1))[j]? := by rw [h]
    rw [List.getElem?_map, List.getElem?_map] at e
    cases h1 : ms'[j]? <;> cases h2 : ms[j]? <;> rw [h1, h2] at e <;> simp_all
theorem FnS.len {g g' : FnT} (h : FnS g g') : g'.more.length = g.more.length := by
  have := congrArg List.length h.2.1
  simpa using this
theorem FnS.line {g g' : FnT} (it : Nat → List UInt8) (h : FnS g g') : lnF it g' = lnF it g := by
  rw [lnF, lnF, h.1, h.len, nmC_names h.2.1, ← inT_er it g'.body, h.2.2, inT_er]
theorem FnS.sz {g g' : FnT} (h : FnS g g') : fsz g' = fsz g := by
  unfold fsz
  rw [h.len, ← tsz_er g'.body, h.2.2, tsz_er]
theorem FsS.all (it : Nat → List UInt8) : ∀ {fs fs' : List FnT}, FsS fs fs' → allF it fs' = allF it fs ∧ pwgt fs' = pwgt fs ∧ fs'.length = fs.length
  | [], [], _ => ⟨rfl, rfl, rfl⟩
  | g :: r, g' :: r', h => by
    obtain ⟨h1, h2, h3⟩ := FsS.all it h.2
    refine ⟨by rw [allF, allF, h1, h.1.line], ?_, by simp [h3]⟩
    unfold pwgt at *
    simp [h2, h.1.sz]
theorem FsS.take : ∀ {fs fs' : List FnT} (i : Nat), FsS fs fs' → FsS (fs.take i) (fs'.take i)
  | [], [], i, _ => by simp [FsS]
  | g :: r, g' :: r', 0, _ => by simp [FsS]
  | g :: r, g' :: r', i + 1, h => by
    rw [List.take_succ_cons, List.take_succ_cons]
    exact ⟨h.1, FsS.take i h.2⟩
theorem FsS.any (p : List UInt8 → Nat → Bool) : ∀ {fs fs' : List FnT}, FsS fs fs' → fs'.any (fun g => p g.name g.more.length) = fs.any (fun g => p g.name g.more.length)
  | [], [], _ => rfl
  | g :: r, g' :: r', h => by rw [List.any_cons, List.any_cons, FsS.any p h.2, h.1.1, h.1.len]
theorem bkf_names : ∀ {ms ms' : List (List UInt8 × Nat)} (known : List (List UInt8)), ms'.map (·.1) = ms.map (·.1) → bkf ms known = none → bkf ms' known = none
  | [], [], known, _, h => h
  | [], _ :: _, _, h, _ => by simp at h
  | _ :: _, [], _, h, _ => by simp at h
  | x :: r, x' :: r', known, h, hb => by
    simp at h
    rw [bkf] at hb ⊢
    by_cases hm : x.1 ∈ known
    · rw [if_pos hm] at hb; cases hb
    · rw [if_neg hm] at hb
      rw [h.1, if_neg hm]
      exact bkf_names _ (by simpa using h.2) hb
theorem ckw_same {sig : List UInt8 → Nat → Bool} {g g' : FnT} (h : FnS g g') (hc : ckw sig g = none) : ckw sig g' = none := by
  unfold ckw at *
  cases hb : bkf g.more [] with
  | some e => rw [hb] at hc; cases hc
  | none =>
    rw [hb] at hc
    rw [bkf_names [] h.2.1 hb, h.2.1]
    show lk sig g'.body _ = none
    rw [← lk_er, h.2.2, lk_er]
    exact hc
theorem ckl_same {fs fs' : List FnT} (hS : FsS fs fs') : ∀ {r r' : List FnT} (i : Nat), FsS r r' → ckl fs r i = none → ckl fs' r' i = none
  | [], [], i, _, _ => by rw [ckl]
  | g :: r, g' :: r', i, h, hc => by
    rw [ckl] at hc ⊢
    have e1 : (fs'.take i).any (fun h => h.name == g'.name) = (fs.take i).any (fun h => h.name == g.name) := by
      rw [h.1.1]
      exact (hS.take i).any (fun nm _ => nm == g.name)
    have e2 : sgF fs' = sgF fs := by
      funext nm n
      exact hS.any (fun x m => x == nm && m == n)
    rw [e1, e2]
    by_cases hb : (fs.take i).any (fun h => h.name == g.name) = true
    · rw [if_pos hb] at hc; cases hc
    · rw [if_neg hb] at hc ⊢
      cases hw : ckw (sgF fs) g with
      | some e => rw [hw] at hc; cases hc
      | none =>
        rw [hw] at hc
        rw [ckw_same h.1 hw]
        exact ckl_same hS (i + 1) h.2 hc
theorem ckn_same {fs fs' : List FnT} (hS : FsS fs fs') {n m : Nat} (h : ckn fs n = none) : ckn fs' m = none := by
  unfold ckn at *
  cases hc : ckl fs fs 0 with
  | some e => rw [hc] at h; cases h
  | none =>
    rw [hc] at h
    rw [ckl_same hS 0 hS hc]
    have e : fs'.any (fun h => h.name == mainW) = fs.any (fun h => h.name == mainW) := hS.any (fun nm _ => nm == mainW)
    show (if fs'.any (fun h => h.name == mainW) then none else some (6, m)) = none
    rw [e]
    by_cases hm : fs.any (fun h => h.name == mainW) = true
    · rw [if_pos hm]
    · simp [hm] at h

theorem pFun_lv (L : List UInt8) (f a : Nat) : (pFun L f a).All (fun g => lvT g.body ≤ 64) := by
  unfold pFun
  refine .bind (.any _) fun _ a1 _ => .bind (.any _) fun nm a2 _ => .bind (.any _) fun more a3 _ => .bind (.any _) fun _ a4 _ => .bind ((p_lv L f).1 a4 0 (by omega)) fun x a5 hx => ?_
  have := hx
  unfold LvE at this
  show lvT x ≤ 64
  omega
theorem pProg_lv (L : List UInt8) : ∀ (f : Nat) (gs : List FnT) (a : Nat), (∀ g, g ∈ gs → lvT g.body ≤ 64) → (pProg L f gs a).All (fun fs => ∀ g, g ∈ fs → lvT g.body ≤ 64)
  | 0, gs, a, _ => by rw [pProg]; trivial
  | f + 1, gs, a, h => by
    rw [pProg]
    refine .ite h (.bind (pFun_lv L f a) fun g j hg => pProg_lv L f _ j fun x hx => ?_)
    rcases List.mem_append.1 hx with h1 | h1
    · exact h x h1
    · simp at h1; subst h1; exact hg

theorem dd_chr {u : Nat} (h : u < 10) : isDg (UInt8.ofNat (48 + u)) = true ∧ (UInt8.ofNat (48 + u)).toNat - 48 = u := by
  have e : (UInt8.ofNat (48 + u)).toNat = 48 + u := by simp; omega
  refine ⟨?_, by omega⟩
  unfold isDg
  simp [UInt8.le_iff_toNat_le]
  omega
theorem dd_all (u : Nat) : (Lib.decDigits u).all isDg = true := by
  induction u using Nat.strongRecOn with
  | _ u ih =>
    rw [Lib.decDigits]
    by_cases h : u < 10
    · rw [dif_pos h, List.all_cons, (dd_chr h).1]; rfl
    · rw [dif_neg h, List.all_append, ih (u / 10) (by omega), List.all_cons, (dd_chr (Nat.mod_lt u (by decide : 10 > 0))).1]; rfl
theorem dd_num (u : Nat) : numV (Lib.decDigits u) = u := by
  induction u using Nat.strongRecOn with
  | _ u ih =>
    rw [Lib.decDigits]
    by_cases h : u < 10
    · rw [dif_pos h]; unfold numV; simp only [List.foldl_cons, List.foldl_nil]; rw [(dd_chr h).2]; omega
    · rw [dif_neg h]
      have e := ih (u / 10) (by omega)
      unfold numV at *
      rw [List.foldl_append, e]
      simp only [List.foldl_cons, List.foldl_nil]
      rw [(dd_chr (Nat.mod_lt u (by decide : 10 > 0))).2]
      omega
theorem dd_ne (u : Nat) : Lib.decDigits u ≠ [] := by
  rw [Lib.decDigits]
  by_cases h : u < 10
  · rw [dif_pos h]; simp
  · rw [dif_neg h]; simp
/-- no zero ahead -/
theorem dd_head (u : Nat) (h0 : 0 < u) : ∃ c r, Lib.decDigits u = c :: r ∧ c ≠ 48 := by
  induction u using Nat.strongRecOn with
  | _ u ih =>
    rw [Lib.decDigits]
    by_cases h : u < 10
    · rw [dif_pos h]
      refine ⟨_, _, rfl, fun e => ?_⟩
      have := (dd_chr h).2
      rw [e] at this
      simp at this
      omega
    · rw [dif_neg h]
      obtain ⟨c, r, e, hc⟩ := ih (u / 10) (by omega) (by omega)
      rw [e]
      exact ⟨c, _, rfl, hc⟩
theorem dg_lt {c : UInt8} (h : isDg c = true) : isLt c = false := by
  unfold isDg at h
  unfold isLt
  simp [UInt8.le_iff_toNat_le] at *
  omega
theorem dd_kd (u : Nat) : wkd (Lib.decDigits u) = 3 := by
  have ha := dd_all u
  by_cases h0 : u = 0
  · subst h0
    rw [Lib.decDigits, dif_pos (by omega)]
    decide
  · obtain ⟨c, r, e, hc⟩ := dd_head u (by omega)
    rw [e] at ha ⊢
    rw [wkd, if_neg, if_neg (fun h => hc h.1), if_pos ha]
    have : isDg c = true := by simp at ha; exact ha.1
    rw [dg_lt this]
    simp
theorem itN_ok : ItOk itN where
  ne := fun n _ => by unfold itN; rw [Lib.itoa_nonneg]; exact dd_ne n
  wd := fun n _ => by
    unfold itN
    rw [Lib.itoa_nonneg]
    have := dd_all n
    rw [List.all_eq_true] at *
    intro c hc
    unfold inWd
    rw [this c hc]
    rfl
  kd := fun n _ => by unfold itN; rw [Lib.itoa_nonneg]; exact dd_kd n
  is := fun n _ => by unfold itN; rw [Lib.itoa_nonneg]; exact dd_num n

/-- a program that was read, written and read again -/
theorem again_prs {T : ByteArray} {fs : List FnT} {j : Nat} (h : prs T = .ok fs j) (hT : T.size ≤ 4000) :
    ∃ fs' j', prs (bs (prP itN fs fs.length)) = .ok fs' j' ∧ prP itN fs' fs'.length = prP itN fs fs.length ∧ pwgt fs' = pwgt fs := by
  obtain ⟨hF, _⟩ := pRes_ok (show pRes (by' T) (4 * T.size + 1) = .ok fs j from h) (by rw [by_len]; exact hT)
  unfold prs pRes at h
  cases hq : pProg (by' T) (4 * T.size + 1) [] 0 with
  | out => rw [hq] at h; cases h
  | bad e a => rw [hq] at h; cases h
  | ok gs k =>
    rw [hq] at h
    cases hc : ckn gs (by' T).length with
    | some y => simp [hc] at h
    | none =>
      simp [hc] at h
      obtain ⟨rfl, rfl⟩ := h
      have hl := pProg_lv (by' T) (4 * T.size + 1) [] 0 (fun g hg => by simp at hg)
      rw [hq] at hl
      obtain ⟨fs', j', hS, hp⟩ := again_read itN_ok gs (fun g hg => ⟨hF g hg, hl g hg⟩)
      obtain ⟨e1, e2, e3⟩ := hS.all itN
      refine ⟨fs', j', ?_, by rw [prP_all, prP_all, e1], e2⟩
      have hb : by' (bs (prP itN gs gs.length)) = prP itN gs gs.length := by simp [by', bs]
      have hz : (bs (prP itN gs gs.length)).size = (prP itN gs gs.length).length := by rw [← by_len, hb]
      unfold prs pRes
      rw [hb, hz, hp _ (Nat.le_refl _)]
      simp [ckn_same hS hc]

end Go.Proofs.YthpkcageimhgaaaDoor
