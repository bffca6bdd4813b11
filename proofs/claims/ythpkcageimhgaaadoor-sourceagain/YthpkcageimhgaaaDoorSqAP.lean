/- Programs as text: every expression that is written is read again. Programs as text: every program that is written is read again. -/
import Derived.Test.YthpkcageimhgaaaDoorSqAO
namespace Go.Proofs.YthpkcageimhgaaaDoor

theorem kid_sz {k : Nat} {nm : List UInt8} {a n : Nat} {kids : List Tr} {x : Tr} (h : x ∈ kids) : SizeOf.sizeOf x < SizeOf.sizeOf (Tr.node k nm a n kids) := by
  have h1 := List.sizeOf_lt_of_mem h
  simp only [Tr.node.sizeOf_spec]
  omega
theorem TWs.mem : ∀ {ts : List Tr} {t : Tr}, TWs ts → t ∈ ts → TW t
  | [], _, _, h => by simp at h
  | x :: r, t, hw, h => by
    rw [TWs] at hw
    rcases List.mem_cons.1 h with rfl | h
    · exact hw.1
    · exact TWs.mem hw.2 h
theorem len1 {α : Type} {l : List α} (h : l.length = 1) : ∃ a, l = [a] := by
  match l, h with
  | [a], _ => exact ⟨a, rfl⟩
theorem len2 {α : Type} {l : List α} (h : l.length = 2) : ∃ a b, l = [a, b] := by
  match l, h with
  | [a, b], _ => exact ⟨a, b, rfl⟩
theorem len3 {α : Type} {l : List α} (h : l.length = 3) : ∃ a b c, l = [a, b, c] := by
  match l, h with
  | [a, b, c], _ => exact ⟨a, b, c, rfl⟩
theorem in2 (it : Nat → List UInt8) (k at' : Nat) (x y : Tr) (hk : 4 ≤ k ∧ k < 8) : inT it (.node k [] at' 0 [x, y]) = par (hT x) (hld k) (inT it x) ++ [32] ++ opS k ++ [32] ++ par (hT y) (hld k + 1) (inT it y) := by
  rw [inT, inTs, inTs, inTs]
  unfold inK
  rw [if_neg (by omega), if_neg (by omega), if_neg (by omega), if_neg (by omega), if_neg (by omega), if_neg (by omega), if_neg (by omega), if_neg (by omega)]
  rfl
theorem lv2 (k at' : Nat) (x y : Tr) (hk : 4 ≤ k ∧ k < 8) : lvT (.node k [] at' 0 [x, y]) = max (px (hT x) (hld k) (lvT x)) (px (hT y) (hld k + 1) (lvT y)) := by
  rw [lvT, lvTs, lvTs, lvTs]
  unfold lvK
  rw [if_neg (by omega), if_neg (by omega), if_neg (by omega), if_neg (by omega), if_neg (by omega), if_neg (by omega), if_neg (by omega)]
  rfl
theorem sm_at {s : List UInt8} {k a b : Nat} {x y : Tr} {v : Nat} (h : RSm s (.node k [] a 0 [x, y]) v) : RSm s (.node k [] b 0 [x, y]) v := fun L p l rest h1 h2 h5 h6 h7 h8 => by
  obtain ⟨t', j, e, hj⟩ := h L p l rest h1 h2 h5 h6 h7 h8
  exact ⟨t', j, by rw [e, er, er], hj⟩
theorem pd_at {s : List UInt8} {k a b : Nat} {x y : Tr} {v : Nat} (h : RPd s (.node k [] a 0 [x, y]) v) : RPd s (.node k [] b 0 [x, y]) v := fun L p l rest h1 h2 h5 h6 => by
  obtain ⟨t', j, e, hj⟩ := h L p l rest h1 h2 h5 h6
  exact ⟨t', j, by rw [e, er, er], hj⟩
theorem ex_at {s : List UInt8} {k a b : Nat} {x y : Tr} {v : Nat} (h : REx s (.node k [] a 0 [x, y]) v) : REx s (.node k [] b 0 [x, y]) v := fun L p l rest h1 h2 h5 h6 h7 h8 h9 h10 h11 => by
  obtain ⟨t', j, e, hj⟩ := h L p l rest h1 h2 h5 h6 h7 h8 h9 h10 h11
  exact ⟨t', j, by rw [e, er, er], hj⟩
theorem rd_all {it : Nat → List UInt8} (hI : ItOk it) : ∀ (N : Nat) (t : Tr), SizeOf.sizeOf t < N → TW t → Rd it t
  | 0, t, h, _ => by omega
  | N + 1, .node k nm at' n kids, h, hw => by
    rw [TW] at hw
    obtain ⟨hs, hks⟩ := hw
    have ih : ∀ x, x ∈ kids → Rd it x := fun x hx => rd_all hI N x (by have := kid_sz (k := k) (nm := nm) (a := at') (n := n) hx; omega) (TWs.mem hks hx)
    rcases hs with ⟨rfl, rfl, hn, hm⟩ | ⟨rfl, hnm, rfl, hm⟩ | ⟨rfl, hnm, rfl, hm⟩ | ⟨rfl, rfl, rfl, hm⟩ | ⟨h4, h8, rfl, rfl, hm⟩ | ⟨rfl, hnm, rfl, hm⟩ | ⟨h10, h11, rfl, rfl, hm⟩
    · obtain rfl : kids = [] := List.length_eq_zero_iff.1 hm
      refine Rd.of4 ?_ ?_
      · rw [inT, inTs, lvT, lvTs]; exact pt_num hI hn
      · rw [inT, inTs]; exact fs_num hI hn
    · obtain rfl : kids = [] := List.length_eq_zero_iff.1 hm
      refine Rd.of4 ?_ ?_
      · rw [inT, inTs, lvT, lvTs]; exact pt_name hnm
      · rw [inT, inTs]; exact fs_name hnm
    · have e : inT it (.node 2 nm at' 0 kids) = nm ++ [40] ++ argA it kids ++ [41] := by
        rw [inT]
        show nm ++ [40] ++ jnC (inTs it kids) (inTs it kids).length ++ [41] = _
        have hl : ∀ ts : List Tr, (inTs it ts).length = ts.length := fun ts => by
          induction ts with
          | nil => rw [inTs]; rfl
          | cons t r ih => rw [inTs]; simp [ih]
        rw [hl, jnC_all]
      refine Rd.of4 ?_ ?_
      · rw [e, lvT]; exact pt_call hnm (fun t ht => (ih t ht).ex) (fun t ht => (ih t ht).nc)
      · rw [e, List.append_assoc, List.append_assoc]; exact fs_more (fs_name hnm) (by decide) _
    · obtain ⟨x, rfl⟩ := len1 hm
      have e : inT it (.node 3 [] at' 0 [x]) = [45] ++ par (hT x) 4 (inT it x) := by rw [inT, inTs, inTs]; rfl
      have e2 : lvT (.node 3 [] at' 0 [x]) = 1 + px (hT x) 4 (lvT x) := by rw [lvT, lvTs, lvTs]; rfl
      refine Rd.of4 ?_ ?_
      · rw [e, e2]; exact pt_neg (ih x (by simp)).pt4
      · rw [e]; exact fs_neg _
    · obtain ⟨x, y, rfl⟩ := len2 hm
      have hx := ih x (by simp)
      have hy := ih y (by simp)
      by_cases h6 : k < 6
      · have eh : hld k = 2 := by unfold hld; rw [if_neg (by omega), if_pos h6]
        have e := in2 it k at' x y ⟨h4, by omega⟩
        have e2 := lv2 k at' x y ⟨h4, by omega⟩
        rw [eh] at e e2
        refine Rd.of2 eh ?_ ?_
        · rw [e, e2]
          exact sm_at (sm_two k (by omega) hx.sm2 hy.pd3)
        · rw [e, List.append_assoc, List.append_assoc, List.append_assoc]; exact fs_more (hx.fsm (by decide)) (by decide) _
      · by_cases h7 : k < 8
        · have eh : hld k = 3 := by unfold hld; rw [if_neg (by omega), if_neg h6, if_pos h7]
          have e := in2 it k at' x y ⟨h4, h7⟩
          have e2 := lv2 k at' x y ⟨h4, h7⟩
          rw [eh] at e e2
          refine Rd.of3 eh ?_ ?_
          · rw [e, e2]
            exact pd_at (pd_two k (by omega) hx.pd3 hy.pt4)
          · rw [e, List.append_assoc, List.append_assoc, List.append_assoc]; exact fs_more (hx.fsm (by decide)) (by decide) _
        · obtain rfl : k = 8 := by omega
          have e : inT it (.node 8 [] at' 0 [x, y]) = par (hT x) 2 (inT it x) ++ [32, 61, 61, 32] ++ par (hT y) 2 (inT it y) := by rw [inT, inTs, inTs, inTs]; rfl
          have e2 : lvT (.node 8 [] at' 0 [x, y]) = max (px (hT x) 2 (lvT x)) (px (hT y) 2 (lvT y)) := by rw [lvT, lvTs, lvTs, lvTs]; rfl
          refine Rd.of1 rfl ?_ ?_
          · rw [e, e2]
            exact ex_at (ex_same hx.sm2 hy.sm2 (hx.fsm (by decide)))
          · rw [e, List.append_assoc]; exact fs_more (hx.fsm (by decide)) (by decide) _
    · obtain ⟨x, y, rfl⟩ := len2 hm
      have hx := ih x (by simp)
      have hy := ih y (by simp)
      have e : inT it (.node 9 nm at' 0 [x, y]) = [108, 101, 116, 32] ++ nm ++ [32, 61, 32] ++ par (hT x) 0 (inT it x) ++ [59, 32] ++ par (hT y) 0 (inT it y) := by rw [inT, inTs, inTs, inTs]; rfl
      have e2 : lvT (.node 9 nm at' 0 [x, y]) = 1 + max (px (hT x) 0 (lvT x)) (px (hT y) 0 (lvT y)) := by rw [lvT, lvTs, lvTs, lvTs]; rfl
      rw [par0, par0] at e
      rw [px_hi (Nat.zero_le _), px_hi (Nat.zero_le _)] at e2
      refine Rd.of0 rfl ?_ ?_
      · rw [e, e2]; exact ex_let hnm hx.ex hy.ex
      · exact nc_of (w := [108, 101, 116]) (k := 5) (by rw [e]; simp only [List.append_assoc, List.cons_append, List.nil_append]; rfl) (by simp) (by decide) (by decide) (by decide)
    · obtain ⟨x, y, z, rfl⟩ := len3 hm
      have hx := ih x (by simp)
      have hy := ih y (by simp)
      have hz := ih z (by simp)
      by_cases hk : k = 10
      · subst hk
        have e : inT it (.node 10 [] at' 0 [x, y, z]) = [110, 101, 101, 100, 32] ++ par (hT x) 2 (inT it x) ++ [32, 61, 61, 32] ++ par (hT y) 2 (inT it y) ++ [59, 32] ++ par (hT z) 0 (inT it z) := by rw [inT, inTs, inTs, inTs, inTs]; rfl
        have e2 : lvT (.node 10 [] at' 0 [x, y, z]) = 1 + max (max (px (hT x) 2 (lvT x)) (px (hT y) 2 (lvT y))) (px (hT z) 0 (lvT z)) := by rw [lvT, lvTs, lvTs, lvTs, lvTs]; rfl
        rw [par0] at e
        rw [px_hi (h := hT z) (Nat.zero_le _)] at e2
        refine Rd.of0 rfl ?_ ?_
        · rw [e, e2]; exact ex_need hx.sm2 hy.sm2 hz.ex
        · exact nc_of (w := [110, 101, 101, 100]) (k := 6) (by rw [e]; simp only [List.append_assoc, List.cons_append, List.nil_append]; rfl) (by simp) (by decide) (by decide) (by decide)
      · obtain rfl : k = 11 := by omega
        have e : inT it (.node 11 [] at' 0 [x, y, z]) = [105, 102, 32] ++ par (hT x) 0 (inT it x) ++ [32, 116, 104, 101, 110, 32] ++ par (hT y) 0 (inT it y) ++ [32, 101, 108, 115, 101, 32] ++ par (hT z) 0 (inT it z) := by rw [inT, inTs, inTs, inTs, inTs]; rfl
        have e2 : lvT (.node 11 [] at' 0 [x, y, z]) = 1 + max (max (px (hT x) 0 (lvT x)) (px (hT y) 0 (lvT y))) (px (hT z) 0 (lvT z)) := by rw [lvT, lvTs, lvTs, lvTs, lvTs]; rfl
        rw [par0, par0, par0] at e
        rw [px_hi (Nat.zero_le _), px_hi (Nat.zero_le _), px_hi (Nat.zero_le _)] at e2
        refine Rd.of0 rfl ?_ ?_
        · rw [e, e2]; exact ex_if hx.ex hy.ex hz.ex
        · exact nc_of (w := [105, 102]) (k := 7) (by rw [e]; simp only [List.append_assoc, List.cons_append, List.nil_append]; rfl) (by simp) (by decide) (by decide) (by decide)
theorem rd_of {it : Nat → List UInt8} (hI : ItOk it) (t : Tr) (h : TW t) : Rd it t := rd_all hI (SizeOf.sizeOf t + 1) t (by omega) h

end Go.Proofs.YthpkcageimhgaaaDoor

namespace Go.Proofs.YthpkcageimhgaaaDoor

theorem pNames_up (L : List UInt8) : ∀ (f : Nat) xs a, (pNames L f xs a).Le (pNames L (f + 1) xs a)
  | 0, _, _ => .inl (by rw [pNames])
  | f + 1, xs, a => by rw [pNames, pNames]; exact .ite (.bind (.refl _) fun _ _ => pNames_up L f _ _) (.refl _)
theorem pBrack_up (L : List UInt8) (f a : Nat) : (pBrack L f a).Le (pBrack L (f + 1) a) := by
  unfold pBrack
  exact .bind (.refl _) fun _ _ => .bind (.ite (.refl _) (.bind (.refl _) fun _ _ => pNames_up L f _ _)) fun _ _ => .refl _
theorem pFun_up (L : List UInt8) (f a : Nat) : (pFun L f a).Le (pFun L (f + 1) a) := by
  unfold pFun
  exact .bind (.refl _) fun _ _ => .bind (.refl _) fun _ _ => .bind (pBrack_up L f _) fun _ _ => .bind (.refl _) fun _ _ => .bind ((p_up L f).1 _ _) fun _ _ => .refl _
theorem pProg_up (L : List UInt8) : ∀ (f : Nat) gs a, (pProg L f gs a).Le (pProg L (f + 1) gs a)
  | 0, _, _ => .inl (by rw [pProg])
  | f + 1, gs, a => by rw [pProg, pProg]; exact .ite (.refl _) (.bind (pFun_up L f a) fun _ _ => pProg_up L f _ _)

/-- names with commas -/
def moreN : List (List UInt8 × Nat) → List UInt8
  | [] => []
  | x :: r => [44, 32] ++ x.1 ++ moreN r
def namA : List (List UInt8 × Nat) → List UInt8
  | [] => []
  | x :: r => x.1 ++ moreN r
theorem moreN_app : ∀ (xs : List (List UInt8 × Nat)) (t : List UInt8 × Nat), moreN (xs ++ [t]) = moreN xs ++ ([44, 32] ++ t.1)
  | [], t => by simp [moreN]
  | x :: xs, t => by rw [List.cons_append, moreN, moreN, moreN_app xs t]; simp
theorem namA_app (xs : List (List UInt8 × Nat)) (t : List UInt8 × Nat) : namA (xs ++ [t]) = namA xs ++ (if 0 < xs.length then [44, 32] else []) ++ t.1 := by
  cases xs with
  | nil => simp [namA, moreN]
  | cons x xs => rw [List.cons_append, namA, namA, moreN_app]; simp
theorem nmC_take (ms : List (List UInt8 × Nat)) : ∀ j, j ≤ ms.length → nmC ms j = namA (ms.take j)
  | 0, _ => by rw [nmC]; rfl
  | j + 1, h => by
    have hj : j < ms.length := by omega
    rw [nmC, nmC_take ms j (by omega), List.take_add_one, List.getElem?_eq_getElem hj]
    show _ = namA (ms.take j ++ [ms[j]])
    rw [namA_app, List.length_take, show min j ms.length = j from by omega]
theorem nmC_all (ms : List (List UInt8 × Nat)) : nmC ms ms.length = namA ms := by rw [nmC_take ms _ (Nat.le_refl _), List.take_length]
theorem names_read {L rest : List UInt8} : ∀ (ms : List (List UInt8 × Nat)), (∀ x, x ∈ ms → NmOk x.1) → ∀ (xs : List (List UInt8 × Nat)) (a : Nat), Suf L a (moreN ms ++ (41 :: rest)) →
    ∃ ys j, ys.map (·.1) = ms.map (·.1) ∧ Suf L j (41 :: rest) ∧ Gt (fun f => pNames L f xs a) (xs ++ ys) j
  | [], _, xs, a, hs => by
    have e := (kd_41 rest).1
    refine ⟨[], a, rfl, hs, gt_succ (gt_eq (gt_const rfl) fun f => ?_)⟩
    rw [pNames, hs.kind, show moreN [] ++ (41 :: rest) = 41 :: rest from rfl, if_neg (by omega), List.append_nil]
  | x :: r, h, xs, a, hs => by
    have e0 : moreN (x :: r) ++ (41 :: rest) = 44 :: 32 :: (x.1 ++ (moreN r ++ (41 :: rest))) := by rw [moreN]; simp
    rw [e0] at hs
    have h44 := kd_44 (32 :: (x.1 ++ (moreN r ++ (41 :: rest))))
    have n0 := hs.nx
    rw [h44.2] at n0
    have hf : FrA (moreN r ++ (41 :: rest)) := by
      cases r with
      | nil => exact fr_of (by decide)
      | cons y r => rw [moreN]; exact fr_of (by decide)
    have hn := h x (by simp)
    have hw := kd_word hn.1 hn.2.2.2 hf
    have m0 := Sf.sp n0
    obtain ⟨b, hb⟩ := m0.name (hw.1.trans hn.2.2.1) (by rw [hw.2.1]; exact hn.2.1)
    have n1 := m0.nx
    rw [hw.2.2] at n1
    obtain ⟨ys, j, ey, hj, f0, g0⟩ := names_read r (fun y hy => h y (by simp [hy])) (xs ++ [(x.1, b)]) _ n1
    refine ⟨(x.1, b) :: ys, j, by simp [ey], hj, gt_succ ⟨f0, fun f hf' => ?_⟩⟩
    show pNames L (f + 1) xs a = _
    rw [pNames, hs.kind, if_pos h44.1, hb, bind_ok, hw.2.1, show pNames L f (xs ++ [(x.1, b)]) _ = .ok (xs ++ [(x.1, b)] ++ ys) j from g0 f hf']
    simp
theorem brack_read {L rest : List UInt8} (ms : List (List UInt8 × Nat)) (h : ∀ x, x ∈ ms → NmOk x.1) (a : Nat) (hs : Suf L a (40 :: (namA ms ++ (41 :: rest)))) : ∃ ys j, ys.map (·.1) = ms.map (·.1) ∧ Suf L j rest ∧ Gt (fun f => pBrack L f a) ys j := by
  have h40 := kd_40 (namA ms ++ (41 :: rest))
  have n0 := hs.nx
  rw [h40.2] at n0
  have h41 := kd_41 rest
  have e41 := h41.1
  cases ms with
  | nil =>
    have n0' : Suf L (tok L a).nx (41 :: rest) := n0
    have n1 := n0'.nx
    rw [h41.2] at n1
    refine ⟨[], _, rfl, n1, gt_eq (gt_const rfl) fun f => ?_⟩
    unfold pBrack
    rw [hs.take h40.1, bind_ok, n0'.kind, if_pos e41, bind_ok, n0'.take e41, bind_ok]
  | cons x r =>
    have n0' : Suf L (tok L a).nx (x.1 ++ (moreN r ++ (41 :: rest))) := by rw [namA, List.append_assoc] at n0; exact n0
    have hf : FrA (moreN r ++ (41 :: rest)) := by
      cases r with
      | nil => exact fr_of (by decide)
      | cons y r => rw [moreN]; exact fr_of (by decide)
    have hn := h x (by simp)
    have hw := kd_word hn.1 hn.2.2.2 hf
    have e2 := hw.1.trans hn.2.2.1
    obtain ⟨b, hb⟩ := n0'.name e2 (by rw [hw.2.1]; exact hn.2.1)
    have n1 := n0'.nx
    rw [hw.2.2] at n1
    obtain ⟨ys, j, ey, hj, f0, g0⟩ := names_read r (fun y hy => h y (by simp [hy])) [(x.1, b)] _ n1
    have n2 := hj.nx
    rw [h41.2] at n2
    refine ⟨(x.1, b) :: ys, _, by simp [ey], n2, f0, fun f hf' => ?_⟩
    show pBrack L f a = _
    unfold pBrack
    rw [hs.take h40.1, bind_ok, n0'.kind, if_neg (by omega), hb, bind_ok, hw.2.1, show pNames L f [(x.1, b)] _ = .ok ([(x.1, b)] ++ ys) j from g0 f hf', bind_ok, hj.take e41, bind_ok]
    rfl

/-- the same function, but for where its names stand -/
def FnS (g g' : FnT) : Prop := g'.name = g.name ∧ g'.more.map (·.1) = g.more.map (·.1) ∧ er g'.body = er g.body
def FsS : List FnT → List FnT → Prop
  | [], [] => True
  | g :: r, g' :: r' => FnS g g' ∧ FsS r r'
  | _, _ => False
def allF (it : Nat → List UInt8) : List FnT → List UInt8
  | [] => []
  | g :: r => lnF it g ++ allF it r
theorem allF_kd (it : Nat → List UInt8) (fs : List FnT) : kd (allF it fs) = 1 ∨ kd (allF it fs) = 4 := by
  cases fs with
  | nil => exact .inl (by unfold allF kd; rw [blank]; rfl)
  | cons g r =>
    refine .inr ?_
    have e : allF it (g :: r) = [102, 110] ++ (32 :: (g.name ++ [40] ++ nmC g.more g.more.length ++ [41, 32, 61, 32] ++ inT it g.body ++ [10] ++ allF it r)) := by rw [allF, lnF]; simp
    rw [e]
    exact (kd_kw (by simp) (by decide) (by decide)).1
theorem fun_read {it : Nat → List UInt8} (hI : ItOk it) {L rest : List UInt8} (g : FnT) (hg : FW g) (hl : lvT g.body ≤ 64) (a : Nat) (hs : Sf L a (lnF it g ++ rest)) (hr : kd rest = 1 ∨ kd rest = 4) : ∃ g' j, FnS g g' ∧ Suf L j (10 :: rest) ∧ Gt (fun f => pFun L f a) g' j := by
  have e : lnF it g ++ rest = [102, 110] ++ (32 :: (g.name ++ (40 :: (namA g.more ++ (41 :: (32 :: 61 :: 32 :: (inT it g.body ++ (10 :: rest)))))))) := by rw [lnF, nmC_all]; simp
  rw [e] at hs
  have k0 := kd_kw (w := [102, 110]) (r := g.name ++ (40 :: (namA g.more ++ (41 :: (32 :: 61 :: 32 :: (inT it g.body ++ (10 :: rest))))))) (k := 4) (by simp) (by decide) (by decide)
  have n0 := hs.nx
  rw [k0.2] at n0
  have hn := hg.1
  have hw := kd_word hn.1 hn.2.2.2 (r := 40 :: (namA g.more ++ (41 :: (32 :: 61 :: 32 :: (inT it g.body ++ (10 :: rest)))))) (fr_of (by decide))
  have m0 := Sf.sp n0
  obtain ⟨b, hb⟩ := m0.name (hw.1.trans hn.2.2.1) (by rw [hw.2.1]; exact hn.2.1)
  have n1 := m0.nx
  rw [hw.2.2] at n1
  obtain ⟨ys, j1, ey, hj1, f1, g1⟩ := brack_read g.more hg.2.1 _ n1
  have m1 := Sf.sp hj1
  have k1 := kd_eq1 (inT it g.body ++ (10 :: rest))
  have n2 := m1.nx
  rw [k1.2] at n2
  have hnl := (kd_nl rest).1
  obtain ⟨x, j2, ex, hj2, f2, g2⟩ := (rd_of hI g.body hg.2.2.2).ex L _ 0 (10 :: rest) (Sf.sp n2) (fr_of (by decide)) (by omega) (by omega) (by omega) (by omega) (by omega) (by omega) (by omega)
  refine ⟨⟨g.name, b, ys, x⟩, j2, ⟨rfl, ey, ex⟩, hj2, max f1 f2, fun f hf' => ?_⟩
  show pFun L f a = _
  unfold pFun
  rw [hs.take k0.1, bind_ok, hb, bind_ok, show pBrack L f _ = .ok ys j1 from g1 f (by omega), bind_ok, m1.take k1.1, bind_ok, show pExpr L f _ 0 = .ok x j2 from g2 f (by omega), bind_ok, hw.2.1]
theorem prog_read {it : Nat → List UInt8} (hI : ItOk it) {L : List UInt8} : ∀ (fs : List FnT), (∀ g, g ∈ fs → FW g ∧ lvT g.body ≤ 64) → ∀ (gs : List FnT) (a : Nat), Sf L a (allF it fs) → ∃ fs' j, FsS fs fs' ∧ Gt (fun f => pProg L f gs a) (gs ++ fs') j
  | [], _, gs, a, hs => by
    refine ⟨[], a, trivial, gt_succ (gt_eq (gt_const rfl) fun f => ?_)⟩
    rw [pProg, hs.kind, if_pos (by show kd [] = 1; unfold kd; rw [blank]; rfl), List.append_nil]
  | g :: r, h, gs, a, hs => by
    have hk : kd (allF it (g :: r)) = 4 := by
      have e : allF it (g :: r) = [102, 110] ++ (32 :: (g.name ++ [40] ++ nmC g.more g.more.length ++ [41, 32, 61, 32] ++ inT it g.body ++ [10] ++ allF it r)) := by rw [allF, lnF]; simp
      rw [e]
      exact (kd_kw (by simp) (by decide) (by decide)).1
    have hkk := hs.kind
    rw [hk] at hkk
    obtain ⟨g', j, eg, hj, f1, g1⟩ := fun_read hI g (h g (by simp)).1 (h g (by simp)).2 a hs (allF_kd it r)
    obtain ⟨fs', j2, ef, f2, g2⟩ := prog_read hI r (fun y hy => h y (by simp [hy])) (gs ++ [g']) j ⟨_, hj, blank_nl _⟩
    refine ⟨g' :: fs', j2, ⟨eg, ef⟩, gt_succ ⟨max f1 f2, fun f hf' => ?_⟩⟩
    show pProg L (f + 1) gs a = _
    rw [pProg, hkk, if_neg (by decide), show pFun L f a = .ok g' j from g1 f (by omega), bind_ok, show pProg L f (gs ++ [g']) j = .ok (gs ++ [g'] ++ fs') j2 from g2 f (by omega)]
    simp
theorem prP_take (it : Nat → List UInt8) : ∀ (fs : List FnT) (j : Nat), j ≤ fs.length → prP it fs j = allF it (fs.take j) := by
  have app : ∀ (xs : List FnT) (g : FnT), allF it (xs ++ [g]) = allF it xs ++ lnF it g := fun xs g => by
    induction xs with
    | nil => simp [allF]
    | cons x r ih => rw [List.cons_append, allF, allF, ih]; simp
  intro fs j
  induction j with
  | zero => intro _; rw [prP]; rfl
  | succ j ih =>
    intro h
    have hj : j < fs.length := by omega
    rw [prP, ih (by omega), List.take_add_one, List.getElem?_eq_getElem hj]
    show _ = allF it (fs.take j ++ [fs[j]])
    rw [app]
theorem prP_all (it : Nat → List UInt8) (fs : List FnT) : prP it fs fs.length = allF it fs := by rw [prP_take it fs _ (Nat.le_refl _), List.take_length]
/-- what is written is read again -/
theorem again_read {it : Nat → List UInt8} (hI : ItOk it) (fs : List FnT) (h : ∀ g, g ∈ fs → FW g ∧ lvT g.body ≤ 64) : ∃ fs' j, FsS fs fs' ∧ ∀ f, 4 * (prP it fs fs.length).length + 1 ≤ f → pProg (prP it fs fs.length) f [] 0 = .ok fs' j := by
  rw [prP_all]
  obtain ⟨fs', j, e, hg⟩ := prog_read hI (L := allF it fs) fs h [] 0 (Suf.sf ⟨Nat.zero_le _, rfl⟩)
  refine ⟨fs', j, e, fun f hf => Up.is (fun f => pProg_up _ f _ _) (by simpa using hg) ?_⟩
  have := pProg_fw (allF it fs) f [] 0 (Nat.zero_le _) (by omega)
  intro h
  rw [h] at this
  exact this

end Go.Proofs.YthpkcageimhgaaaDoor
