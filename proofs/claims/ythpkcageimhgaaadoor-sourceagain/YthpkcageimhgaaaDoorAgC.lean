/- Programs as text: what is written is read again: parts, products, sums. -/
import Derived.Test.YthpkcageimhgaaaDoorSqAN
namespace Go.Proofs.YthpkcageimhgaaaDoor

mutual
/-- without where its names stand -/
def er : Tr → Tr
  | .node k nm _ n kids => .node k nm 0 n (ers kids)
def ers : List Tr → List Tr
  | [] => []
  | t :: r => er t :: ers r
end
theorem bind_ok {α β : Type} (x : α) (j : Nat) (f : α → Nat → Res β) : (Res.ok x j).bind f = f x j := rfl
theorem gt_bind {α β : Type} {p : Nat → Res α} {q : Nat → α → Nat → Res β} {x : α} {j : Nat} {y : β} {i : Nat} (h : Gt p x j) (h2 : Gt (fun f => q f x j) y i) : Gt (fun f => (p f).bind (q f)) y i := by
  obtain ⟨f0, h0⟩ := h
  obtain ⟨f1, h1⟩ := h2
  exact ⟨max f0 f1, fun f hf => by show (p f).bind (q f) = _; rw [h0 f (by omega)]; exact h1 f (by omega)⟩
theorem gt_succ {α : Type} {p : Nat → Res α} {x : α} {j : Nat} (h : Gt (fun f => p (f + 1)) x j) : Gt p x j := by
  obtain ⟨f0, h0⟩ := h
  refine ⟨f0 + 1, fun f hf => ?_⟩
  obtain ⟨g, rfl⟩ : ∃ g, f = g + 1 := ⟨f - 1, by omega⟩
  exact h0 g (by omega)
theorem gt_const {α : Type} {r : Res α} {x : α} {j : Nat} (h : r = .ok x j) : Gt (fun _ => r) x j := ⟨0, fun _ _ => h⟩
theorem gt_eq {α : Type} {p q : Nat → Res α} {x : α} {j : Nat} (h : Gt q x j) (e : ∀ f, p f = q f) : Gt p x j := by
  obtain ⟨f0, h0⟩ := h
  exact ⟨f0, fun f hf => (e f).trans (h0 f hf)⟩

/-- what is left begins, but for blanks, so -/
def Sf (L : List UInt8) (a : Nat) (s : List UInt8) : Prop := ∃ r, Suf L a r ∧ blank r = blank s
theorem Suf.sf {L : List UInt8} {a : Nat} {s : List UInt8} (h : Suf L a s) : Sf L a s := ⟨s, h, rfl⟩
theorem Sf.sp {L : List UInt8} {a : Nat} {s : List UInt8} (h : Suf L a (32 :: s)) : Sf L a s := ⟨_, h, blankA s⟩
theorem blank_same {r s : List UInt8} (h : blank r = blank s) : kd r = kd s ∧ tx r = tx s ∧ nxs r = nxs s := by unfold kd nxs tx; rw [h]; exact ⟨rfl, rfl, rfl⟩
theorem Sf.kind {L : List UInt8} {a : Nat} {s : List UInt8} (h : Sf L a s) : (tok L a).kind = kd s := by
  obtain ⟨r, h1, h2⟩ := h
  rw [h1.kind, (blank_same h2).1]
theorem Sf.nx {L : List UInt8} {a : Nat} {s : List UInt8} (h : Sf L a s) : Suf L (tok L a).nx (nxs s) := by
  obtain ⟨r, h1, h2⟩ := h
  rw [← (blank_same h2).2.2]
  exact h1.nx
theorem Sf.take {L : List UInt8} {a k : Nat} {s : List UInt8} (h : Sf L a s) (hk : kd s = k) : pTake L k a = .ok (tok L a) (tok L a).nx := by
  obtain ⟨r, h1, h2⟩ := h
  exact h1.take ((blank_same h2).1.trans hk)
theorem Sf.enter {L : List UInt8} {a k l : Nat} {s : List UInt8} (h : Sf L a s) (hk : kd s = k) (hl : l ≠ 64) : pEnter L k a l = .ok () (tok L a).nx := by
  obtain ⟨r, h1, h2⟩ := h
  exact h1.enter ((blank_same h2).1.trans hk) hl
theorem Sf.name {L : List UInt8} {a : Nat} {s : List UInt8} (h : Sf L a s) (hk : kd s = 2) (hl : (tx s).length ≤ 16) : ∃ at', pName L a = .ok (tx s, at') (tok L a).nx := by
  obtain ⟨r, h1, h2⟩ := h
  have e := blank_same h2
  rw [← e.2.1] at hl ⊢
  exact h1.name (e.1.trans hk) hl
theorem Sf.num {L : List UInt8} {a : Nat} {s : List UInt8} (h : Sf L a s) (hk : kd s = 3) (hl : numV (tx s) ≤ 9223372036854775807) : pNum L a = .ok (.node 0 [] 0 (numV (tx s)) []) (tok L a).nx := by
  obtain ⟨r, h1, h2⟩ := h
  have e := blank_same h2
  rw [← e.2.1] at hl ⊢
  exact h1.num (e.1.trans hk) hl

theorem kd_sign {c : UInt8} {r : List UInt8} (h1 : inWd c = false) (h2 : (c == 32 || c == 9 || c == 10) = false) (h5 : (c == 35) = false) : kd (c :: r) = (sgn (c :: r)).1 ∧ tx (c :: r) = (c :: r).take (sgn (c :: r)).2 ∧ nxs (c :: r) = (c :: r).drop ((c :: r).take (sgn (c :: r)).2).length := by
  have hb : blank (c :: r) = c :: r := by rw [blank, if_neg (by rw [h2]; simp), if_neg (by rw [h5]; simp)]
  have ht : (c :: r).takeWhile inWd = [] := by rw [List.takeWhile_cons, h1]; rfl
  unfold kd nxs tx tokR
  rw [hb, if_neg (by simp), ht, if_neg (by simp)]
  exact ⟨rfl, rfl, rfl⟩
theorem kd_40 (r : List UInt8) : kd (40 :: r) = 10 ∧ nxs (40 :: r) = r := by have h := kd_sign (c := 40) (r := r) (by decide) (by decide) (by decide); exact ⟨h.1, h.2.2⟩
theorem kd_41 (r : List UInt8) : kd (41 :: r) = 11 ∧ nxs (41 :: r) = r := by have h := kd_sign (c := 41) (r := r) (by decide) (by decide) (by decide); exact ⟨h.1, h.2.2⟩
theorem kd_44 (r : List UInt8) : kd (44 :: r) = 12 ∧ nxs (44 :: r) = r := by have h := kd_sign (c := 44) (r := r) (by decide) (by decide) (by decide); exact ⟨h.1, h.2.2⟩
theorem kd_59 (r : List UInt8) : kd (59 :: r) = 13 ∧ nxs (59 :: r) = r := by have h := kd_sign (c := 59) (r := r) (by decide) (by decide) (by decide); exact ⟨h.1, h.2.2⟩
theorem kd_43 (r : List UInt8) : kd (43 :: r) = 16 ∧ nxs (43 :: r) = r := by have h := kd_sign (c := 43) (r := r) (by decide) (by decide) (by decide); exact ⟨h.1, h.2.2⟩
theorem kd_45 (r : List UInt8) : kd (45 :: r) = 17 ∧ nxs (45 :: r) = r := by have h := kd_sign (c := 45) (r := r) (by decide) (by decide) (by decide); exact ⟨h.1, h.2.2⟩
theorem kd_42 (r : List UInt8) : kd (42 :: r) = 18 ∧ nxs (42 :: r) = r := by have h := kd_sign (c := 42) (r := r) (by decide) (by decide) (by decide); exact ⟨h.1, h.2.2⟩
theorem kd_47 (r : List UInt8) : kd (47 :: r) = 19 ∧ nxs (47 :: r) = r := by have h := kd_sign (c := 47) (r := r) (by decide) (by decide) (by decide); exact ⟨h.1, h.2.2⟩
theorem kd_eq2 (r : List UInt8) : kd (61 :: 61 :: r) = 15 ∧ nxs (61 :: 61 :: r) = r := by have h := kd_sign (c := 61) (r := 61 :: r) (by decide) (by decide) (by decide); exact ⟨h.1, h.2.2⟩
theorem kd_eq1 (r : List UInt8) : kd (61 :: 32 :: r) = 14 ∧ nxs (61 :: 32 :: r) = 32 :: r := by have h := kd_sign (c := 61) (r := 32 :: r) (by decide) (by decide) (by decide); exact ⟨h.1, h.2.2⟩
theorem fr_of {c : UInt8} {r : List UInt8} (h : inWd c = false) : FrA (c :: r) := fun d r' e => by injection e with e1 _; rw [← e1]; exact h

/-- how numbers are written -/
structure ItOk (it : Nat → List UInt8) : Prop where
  ne : ∀ n, n ≤ 9223372036854775807 → it n ≠ []
  wd : ∀ n, n ≤ 9223372036854775807 → (it n).all inWd = true
  kd : ∀ n, n ≤ 9223372036854775807 → wkd (it n) = 3
  is : ∀ n, n ≤ 9223372036854775807 → numV (it n) = n

/-- a part is read again -/
def RPt (s : List UInt8) (t : Tr) (v : Nat) : Prop := ∀ L a l rest, Sf L a (s ++ rest) → FrA rest → kd rest ≠ 10 → l + v ≤ 64 → ∃ t' j, er t' = er t ∧ Suf L j rest ∧ Gt (fun f => pPart L f a l) t' j
/-- a product -/
def RPd (s : List UInt8) (t : Tr) (v : Nat) : Prop := ∀ L a l rest, Sf L a (s ++ rest) → FrA rest → kd rest ≠ 10 → l + v ≤ 64 → ∃ t' j, er t' = er t ∧ Suf L j rest ∧ ∀ R i, Gt (fun f => pProdL L f t' j l) R i → Gt (fun f => pProd L f a l) R i
/-- a sum -/
def RSm (s : List UInt8) (t : Tr) (v : Nat) : Prop := ∀ L a l rest, Sf L a (s ++ rest) → FrA rest → kd rest ≠ 10 → kd rest ≠ 18 → kd rest ≠ 19 → l + v ≤ 64 → ∃ t' j, er t' = er t ∧ Suf L j rest ∧ ∀ R i, Gt (fun f => pSumL L f t' j l) R i → Gt (fun f => pSum L f a l) R i
/-- any expression -/
def REx (s : List UInt8) (t : Tr) (v : Nat) : Prop := ∀ L a l rest, Sf L a (s ++ rest) → FrA rest → kd rest ≠ 10 → kd rest ≠ 15 → kd rest ≠ 16 → kd rest ≠ 17 → kd rest ≠ 18 → kd rest ≠ 19 → l + v ≤ 64 → ∃ t' j, er t' = er t ∧ Suf L j rest ∧ Gt (fun f => pExpr L f a l) t' j
/-- how it begins -/
def FsK (s : List UInt8) : Prop := ∀ rest, FrA rest → kd (s ++ rest) = 2 ∨ kd (s ++ rest) = 3 ∨ kd (s ++ rest) = 10 ∨ kd (s ++ rest) = 17

/-- in brackets -/
theorem pt_par {s : List UInt8} {t : Tr} {v : Nat} (h : REx s t v) : RPt ([40] ++ s ++ [41]) t (v + 1) := fun L a l rest hs hf hk hl => by
  have e : [40] ++ s ++ [41] ++ rest = 40 :: (s ++ (41 :: rest)) := by simp
  rw [e] at hs
  have h40 := kd_40 (s ++ (41 :: rest))
  have h1 := hs.nx
  rw [h40.2] at h1
  have h41 := kd_41 rest
  have e11 := h41.1
  obtain ⟨t', j, he, hj, hg⟩ := h L _ (l + 1) (41 :: rest) h1.sf (fr_of (by decide)) (by omega) (by omega) (by omega) (by omega) (by omega) (by omega) (by omega)
  have h2 := hj.nx
  rw [h41.2] at h2
  obtain ⟨f0, h0⟩ := hg
  refine ⟨t', _, he, h2, gt_succ ⟨f0, fun f hf' => ?_⟩⟩
  show pPart L (f + 1) a l = _
  rw [pPart, hs.kind, h40.1, if_neg (by decide), if_pos rfl, hs.enter (l := l) h40.1 (by omega), bind_ok]
  rw [show pExpr L f (tok L a).nx (l + 1) = .ok t' j from h0 f hf', bind_ok, hj.take h41.1, bind_ok]
theorem fs_par (s : List UInt8) : FsK ([40] ++ s ++ [41]) := fun rest _ => .inr (.inr (.inl (by rw [show [40] ++ s ++ [41] ++ rest = 40 :: (s ++ (41 :: rest)) from by simp]; exact (kd_40 _).1)))
/-- a part is a product, a product a sum -/
theorem pd_of_pt {s : List UInt8} {t : Tr} {v : Nat} (h : RPt s t v) : RPd s t v := fun L a l rest hs hf hk hl => by
  obtain ⟨t', j, he, hj, hg⟩ := h L a l rest hs hf hk hl
  refine ⟨t', j, he, hj, fun R i hR => gt_succ (gt_eq (gt_bind (q := fun f x j => pProdL L f x j l) hg hR) fun f => ?_)⟩
  rw [pProd]
theorem prodL_stop {L : List UInt8} {j l : Nat} {rest : List UInt8} (t : Tr) (hj : Suf L j rest) (h8 : kd rest ≠ 18) (h9 : kd rest ≠ 19) : Gt (fun f => pProdL L f t j l) t j := gt_succ (gt_eq (gt_const rfl) fun f => by
  rw [pProdL, hj.kind, if_neg h8, if_neg h9])
theorem sumL_stop {L : List UInt8} {j l : Nat} {rest : List UInt8} (t : Tr) (hj : Suf L j rest) (h6 : kd rest ≠ 16) (h7 : kd rest ≠ 17) : Gt (fun f => pSumL L f t j l) t j := gt_succ (gt_eq (gt_const rfl) fun f => by
  rw [pSumL, hj.kind, if_neg h6, if_neg h7])
theorem sm_of_pd {s : List UInt8} {t : Tr} {v : Nat} (h : RPd s t v) : RSm s t v := fun L a l rest hs hf hk h8 h9 hl => by
  obtain ⟨t', j, he, hj, hg⟩ := h L a l rest hs hf hk hl
  refine ⟨t', j, he, hj, fun R i hR => gt_succ (gt_eq (gt_bind (q := fun f x j => pSumL L f x j l) (hg t' j (prodL_stop t' hj h8 h9)) hR) fun f => ?_)⟩
  rw [pSum]
theorem ex_of_sm {s : List UInt8} {t : Tr} {v : Nat} (h : RSm s t v) (hF : FsK s) : REx s t v := fun L a l rest hs hf h10 h15 h16 h17 h18 h19 hl => by
  obtain ⟨t', j, he, hj, hg⟩ := h L a l rest hs hf h10 h18 h19 hl
  have hk := hF rest hf
  refine ⟨t', j, he, hj, gt_succ (gt_eq (gt_bind (q := fun f x a1 => if (tok L a1).kind = 15 then (pSum L f (tok L a1).nx l).bind fun y a2 => .ok (.node 8 [] 0 0 [x, y]) a2 else .ok x a1) (hg t' j (sumL_stop t' hj h16 h17)) ?_) fun f => ?_)⟩
  · exact gt_eq (gt_const (r := .ok t' j) rfl) fun f => by show (if (tok L j).kind = 15 then _ else _) = _; rw [if_neg (by rw [hj.kind]; exact h15)]
  · rw [pExpr, hs.kind, if_neg (by omega), if_neg (by omega), if_neg (by omega)]
/-- two parts with a sign between -/
theorem pd_two {s1 s2 : List UInt8} {x y : Tr} {v1 v2 : Nat} (k : Nat) (hk : k = 6 ∨ k = 7) (hx : RPd s1 x v1) (hy : RPt s2 y v2) : RPd (s1 ++ [32] ++ opS k ++ [32] ++ s2) (.node k [] 0 0 [x, y]) (max v1 v2) := fun L a l rest hs hf h10 hl => by
  have e : s1 ++ [32] ++ opS k ++ [32] ++ s2 ++ rest = s1 ++ (32 :: (opS k ++ (32 :: (s2 ++ rest)))) := by simp
  rw [e] at hs
  have ho : kd (opS k ++ (32 :: (s2 ++ rest))) = k + 12 ∧ nxs (opS k ++ (32 :: (s2 ++ rest))) = 32 :: (s2 ++ rest) := by
    rcases hk with rfl | rfl
    · exact kd_42 _
    · exact kd_47 _
  have h32 := kd_sp (opS k ++ (32 :: (s2 ++ rest)))
  have e1 := ho.1
  obtain ⟨x', j1, ex, hj1, hg1⟩ := hx L a l (32 :: (opS k ++ (32 :: (s2 ++ rest)))) hs (fr_of (by decide)) (by rw [h32.1, e1]; omega) (by omega)
  have hn := hj1.nx
  rw [h32.2.2, ho.2] at hn
  obtain ⟨y', j2, ey, hj2, hg2⟩ := hy L _ l rest (Sf.sp hn) hf h10 (by omega)
  refine ⟨.node k [] 0 0 [x', y'], j2, ?_, hj2, fun R i hR => hg1 R i (gt_succ (gt_eq (gt_bind (q := fun f y j => pProdL L f (.node k [] 0 0 [x', y]) j l) hg2 hR) fun f => ?_))⟩
  · rw [er, er, ers, ers, ers, ers, ers, ers, ex, ey]
  · have hkk := hj1.kind
    rw [h32.1, e1] at hkk
    rw [pProdL, hkk]
    rcases hk with rfl | rfl
    · rfl
    · rfl
theorem sm_two {s1 s2 : List UInt8} {x y : Tr} {v1 v2 : Nat} (k : Nat) (hk : k = 4 ∨ k = 5) (hx : RSm s1 x v1) (hy : RPd s2 y v2) : RSm (s1 ++ [32] ++ opS k ++ [32] ++ s2) (.node k [] 0 0 [x, y]) (max v1 v2) := fun L a l rest hs hf h10 h18 h19 hl => by
  have e : s1 ++ [32] ++ opS k ++ [32] ++ s2 ++ rest = s1 ++ (32 :: (opS k ++ (32 :: (s2 ++ rest)))) := by simp
  rw [e] at hs
  have ho : kd (opS k ++ (32 :: (s2 ++ rest))) = k + 12 ∧ nxs (opS k ++ (32 :: (s2 ++ rest))) = 32 :: (s2 ++ rest) := by
    rcases hk with rfl | rfl
    · exact kd_43 _
    · exact kd_45 _
  have h32 := kd_sp (opS k ++ (32 :: (s2 ++ rest)))
  have e1 := ho.1
  obtain ⟨x', j1, ex, hj1, hg1⟩ := hx L a l (32 :: (opS k ++ (32 :: (s2 ++ rest)))) hs (fr_of (by decide)) (by rw [h32.1, e1]; omega) (by rw [h32.1, e1]; omega) (by rw [h32.1, e1]; omega) (by omega)
  have hn := hj1.nx
  rw [h32.2.2, ho.2] at hn
  obtain ⟨y', j2, ey, hj2, hg2⟩ := hy L _ l rest (Sf.sp hn) hf h10 (by omega)
  refine ⟨.node k [] 0 0 [x', y'], j2, ?_, hj2, fun R i hR => hg1 R i (gt_succ (gt_eq (gt_bind (q := fun f y j => pSumL L f (.node k [] 0 0 [x', y]) j l) (hg2 y' j2 (prodL_stop y' hj2 h18 h19)) hR) fun f => ?_))⟩
  · rw [er, er, ers, ers, ers, ers, ers, ers, ex, ey]
  · have hkk := hj1.kind
    rw [h32.1, e1] at hkk
    rw [pSumL, hkk]
    rcases hk with rfl | rfl
    · rfl
    · rfl
/-- two sums that are the same -/
theorem ex_same {s1 s2 : List UInt8} {x y : Tr} {v1 v2 : Nat} (hx : RSm s1 x v1) (hy : RSm s2 y v2) (hF : FsK s1) : REx (s1 ++ [32, 61, 61, 32] ++ s2) (.node 8 [] 0 0 [x, y]) (max v1 v2) := fun L a l rest hs hf h10 h15 h16 h17 h18 h19 hl => by
  have e : s1 ++ [32, 61, 61, 32] ++ s2 ++ rest = s1 ++ (32 :: 61 :: 61 :: 32 :: (s2 ++ rest)) := by simp
  rw [e] at hs
  have h32 := kd_sp (61 :: 61 :: 32 :: (s2 ++ rest))
  have h2 := kd_eq2 (32 :: (s2 ++ rest))
  have e1 := h2.1
  have hfr : FrA (32 :: 61 :: 61 :: 32 :: (s2 ++ rest)) := fr_of (by decide)
  have hk := hF _ hfr
  obtain ⟨x', j1, ex, hj1, hg1⟩ := hx L a l _ hs hfr (by rw [h32.1, e1]; omega) (by rw [h32.1, e1]; omega) (by rw [h32.1, e1]; omega) (by omega)
  have hn := hj1.nx
  rw [h32.2.2, h2.2] at hn
  obtain ⟨y', j2, ey, hj2, hg2⟩ := hy L _ l rest (Sf.sp hn) hf h10 h18 h19 (by omega)
  have hkk := hj1.kind
  rw [h32.1, e1] at hkk
  refine ⟨.node 8 [] 0 0 [x', y'], j2, ?_, hj2, gt_succ (gt_eq (gt_bind (q := fun f x a1 => if (tok L a1).kind = 15 then (pSum L f (tok L a1).nx l).bind fun y a2 => .ok (.node 8 [] 0 0 [x, y]) a2 else .ok x a1) (hg1 x' j1 (sumL_stop x' hj1 (by rw [h32.1, e1]; omega) (by rw [h32.1, e1]; omega))) ?_) fun f => ?_)⟩
  · rw [er, er, ers, ers, ers, ers, ers, ers, ex, ey]
  · refine gt_eq (gt_bind (q := fun _ y a2 => .ok (.node 8 [] 0 0 [x', y]) a2) (hg2 y' j2 (sumL_stop y' hj2 h16 h17)) (gt_const rfl)) fun f => ?_
    show (if (tok L j1).kind = 15 then _ else _) = _
    rw [if_pos hkk]
  · rw [pExpr, hs.kind, if_neg (by omega), if_neg (by omega), if_neg (by omega)]

end Go.Proofs.YthpkcageimhgaaaDoor
