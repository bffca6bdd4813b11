/- Programs as text: what is written is read again: numbers, names, calls, and the forms that begin with a word. Programs as text: what is written is read again. -/
import Derived.Test.YthpkcageimhgaaaDoorAgC
namespace Go.Proofs.YthpkcageimhgaaaDoor

theorem pt_num {it : Nat → List UInt8} (hI : ItOk it) {n at' : Nat} (hn : n ≤ 9223372036854775807) : RPt (it n) (.node 0 [] at' n []) 0 := fun L a l rest hs hf hk hl => by
  have hw := kd_word (hI.ne n hn) (hI.wd n hn) hf
  have e3 : kd (it n ++ rest) = 3 := hw.1.trans (hI.kd n hn)
  have hx := hs.nx
  rw [hw.2.2] at hx
  refine ⟨.node 0 [] 0 n [], _, by rw [er, er], hx, gt_succ (gt_eq (gt_const rfl) fun f => ?_)⟩
  rw [pPart, hs.kind, e3, if_neg (by decide), if_neg (by decide), if_neg (by decide), hs.num e3 (by rw [hw.2.1, hI.is n hn]; exact hn), hw.2.1, hI.is n hn]
theorem fs_num {it : Nat → List UInt8} (hI : ItOk it) {n : Nat} (hn : n ≤ 9223372036854775807) : FsK (it n) := fun _ hf => .inr (.inl ((kd_word (hI.ne n hn) (hI.wd n hn) hf).1.trans (hI.kd n hn)))
theorem fs_name {nm : List UInt8} (hn : NmOk nm) : FsK nm := fun _ hf => .inl ((kd_word hn.1 hn.2.2.2 hf).1.trans hn.2.2.1)
theorem pt_name {nm : List UInt8} (hn : NmOk nm) {at' : Nat} : RPt nm (.node 1 nm at' 0 []) 0 := fun L a l rest hs hf hk hl => by
  have hw := kd_word hn.1 hn.2.2.2 hf
  have e2 := hw.1.trans hn.2.2.1
  have hx := hs.nx
  rw [hw.2.2] at hx
  obtain ⟨b, hb⟩ := hs.name e2 (by rw [hw.2.1]; exact hn.2.1)
  refine ⟨.node 1 nm b 0 [], _, by rw [er, er], hx, gt_succ (gt_eq (gt_const rfl) fun f => ?_)⟩
  rw [pPart, hs.kind, e2, if_pos rfl, hb, bind_ok, hx.kind, if_neg hk, hw.2.1]
theorem pt_neg {s : List UInt8} {x : Tr} {v at' : Nat} (h : RPt s x v) : RPt ([45] ++ s) (.node 3 [] at' 0 [x]) (1 + v) := fun L a l rest hs hf hk hl => by
  have h45 := kd_45 (s ++ rest)
  rw [show [45] ++ s ++ rest = 45 :: (s ++ rest) from by simp] at hs
  have hx := hs.nx
  rw [h45.2] at hx
  obtain ⟨x', j, ex, hj, f0, h0⟩ := h L _ (l + 1) rest hx.sf hf hk (by omega)
  refine ⟨.node 3 [] 0 0 [x'], j, by rw [er, er, ers, ers, ers, ers, ex], hj, gt_succ ⟨f0, fun f hf' => ?_⟩⟩
  show pPart L (f + 1) a l = _
  rw [pPart, hs.kind, h45.1, if_neg (by decide), if_neg (by decide), if_pos rfl, hs.enter (l := l) h45.1 (by omega), bind_ok, show pPart L f (tok L a).nx (l + 1) = .ok x' j from h0 f hf', bind_ok]
theorem fs_neg (s : List UInt8) : FsK ([45] ++ s) := fun rest _ => .inr (.inr (.inr (by rw [show [45] ++ s ++ rest = 45 :: (s ++ rest) from by simp]; exact (kd_45 _).1)))
theorem fs_more {s : List UInt8} (h : FsK s) {c : UInt8} (hc : inWd c = false) (m : List UInt8) : FsK (s ++ (c :: m)) := fun rest _ => by
  rw [List.append_assoc]
  exact h _ (by rw [List.cons_append]; exact fr_of hc)

/-- no bracket is closed there -/
def NoC (s : List UInt8) : Prop := ∀ rest, FrA rest → kd (s ++ rest) ≠ 11
theorem FsK.noC {s : List UInt8} (h : FsK s) : NoC s := fun rest hf => by have := h rest hf; omega
/-- arguments, and what stands behind the first -/
def moreA (it : Nat → List UInt8) : List Tr → List UInt8
  | [] => []
  | t :: r => [44, 32] ++ inT it t ++ moreA it r
def argA (it : Nat → List UInt8) : List Tr → List UInt8
  | [] => []
  | t :: r => inT it t ++ moreA it r
theorem moreA_app (it : Nat → List UInt8) : ∀ (xs : List Tr) (t : Tr), moreA it (xs ++ [t]) = moreA it xs ++ ([44, 32] ++ inT it t)
  | [], t => by simp [moreA]
  | x :: xs, t => by rw [List.cons_append, moreA, moreA, moreA_app it xs t]; simp
theorem argA_app (it : Nat → List UInt8) (xs : List Tr) (t : Tr) : argA it (xs ++ [t]) = argA it xs ++ (if 0 < xs.length then [44, 32] else []) ++ inT it t := by
  cases xs with
  | nil => simp [argA, moreA]
  | cons x xs => rw [List.cons_append, argA, argA, moreA_app]; simp
theorem inTs_atA (it : Nat → List UInt8) : ∀ (ts : List Tr) (i : Nat), (inTs it ts)[i]? = ts[i]?.map fun t => (hld (knd t), inT it t)
  | [], i => by simp [inTs]
  | t :: r, 0 => by simp [inTs]
  | t :: r, i + 1 => by rw [inTs]; simp [inTs_atA it r i]
theorem jnC_take (it : Nat → List UInt8) (kids : List Tr) : ∀ j, j ≤ kids.length → jnC (inTs it kids) j = argA it (kids.take j)
  | 0, _ => by rw [jnC]; rfl
  | j + 1, h => by
    have hj : j < kids.length := by omega
    rw [jnC, jnC_take it kids j (by omega), List.take_add_one, List.getElem?_eq_getElem hj]
    show _ = argA it (kids.take j ++ [kids[j]])
    rw [argA_app, List.length_take, show min j kids.length = j from by omega]
    congr 1
    unfold kt
    rw [inTs_atA, List.getElem?_eq_getElem hj]
    show par _ 0 _ = _
    unfold par
    rw [if_neg (by omega)]
theorem jnC_all (it : Nat → List UInt8) (kids : List Tr) : jnC (inTs it kids) kids.length = argA it kids := by rw [jnC_take it kids _ (Nat.le_refl _), List.take_length]

theorem args_read {it : Nat → List UInt8} {L : List UInt8} {l : Nat} {rest : List UInt8} : ∀ (kids : List Tr), (∀ t, t ∈ kids → REx (inT it t) t (lvT t) ∧ l + lvT t ≤ 64) → ∀ (xs : List Tr) (a : Nat), Suf L a (moreA it kids ++ (41 :: rest)) →
    ∃ ks j, ers ks = ers kids ∧ Suf L j (41 :: rest) ∧ Gt (fun f => pArgs L f xs a l) (xs ++ ks) j
  | [], _, xs, a, hs => by
    have h41 := kd_41 rest
    have e := h41.1
    refine ⟨[], a, rfl, hs, gt_succ (gt_eq (gt_const rfl) fun f => ?_)⟩
    rw [pArgs, hs.kind, show moreA it [] ++ (41 :: rest) = 41 :: rest from rfl, if_neg (by omega), List.append_nil]
  | t :: r, h, xs, a, hs => by
    have e0 : moreA it (t :: r) ++ (41 :: rest) = 44 :: 32 :: (inT it t ++ (moreA it r ++ (41 :: rest))) := by rw [moreA]; simp
    rw [e0] at hs
    have h44 := kd_44 (32 :: (inT it t ++ (moreA it r ++ (41 :: rest))))
    have hx := hs.nx
    rw [h44.2] at hx
    have h41 := kd_41 rest
    have e41 := h41.1
    have hrest : FrA (moreA it r ++ (41 :: rest)) ∧ (kd (moreA it r ++ (41 :: rest)) = 11 ∨ kd (moreA it r ++ (41 :: rest)) = 12) := by
      cases r with
      | nil => exact ⟨fr_of (by decide), .inl e41⟩
      | cons y r => rw [moreA]; exact ⟨fr_of (by decide), .inr (kd_44 _).1⟩
    obtain ⟨t', j, et, hj, hg⟩ := (h t (by simp)).1 L _ l _ (Sf.sp hx) hrest.1 (by omega) (by omega) (by omega) (by omega) (by omega) (by omega) (h t (by simp)).2
    obtain ⟨ks, j2, ek, hj2, hg2⟩ := args_read r (fun y hy => h y (by simp [hy])) (xs ++ [t']) j hj
    refine ⟨t' :: ks, j2, by rw [ers, ers, et, ek], hj2, gt_succ (gt_eq (gt_bind (q := fun f x j => pArgs L f (xs ++ [x]) j l) hg (by simpa using hg2)) fun f => ?_)⟩
    rw [pArgs, hs.kind, h44.1, if_pos rfl]
theorem pt_call {it : Nat → List UInt8} {nm : List UInt8} (hn : NmOk nm) {at' : Nat} {kids : List Tr} (h : ∀ t, t ∈ kids → REx (inT it t) t (lvT t)) (hc : ∀ t, t ∈ kids → NoC (inT it t)) : RPt (nm ++ [40] ++ argA it kids ++ [41]) (.node 2 nm at' 0 kids) (1 + lmax (lvTs kids)) := fun L a l rest hs hf hk hl => by
  have e : nm ++ [40] ++ argA it kids ++ [41] ++ rest = nm ++ (40 :: (argA it kids ++ (41 :: rest))) := by simp
  rw [e] at hs
  have hw := kd_word hn.1 hn.2.2.2 (r := 40 :: (argA it kids ++ (41 :: rest))) (fr_of (by decide))
  have e2 := hw.1.trans hn.2.2.1
  have hx := hs.nx
  rw [hw.2.2] at hx
  obtain ⟨b, hb⟩ := hs.name e2 (by rw [hw.2.1]; exact hn.2.1)
  have h40 := kd_40 (argA it kids ++ (41 :: rest))
  have hy := hx.nx
  rw [h40.2] at hy
  have h41 := kd_41 rest
  have e41 := h41.1
  have hlv : ∀ t, t ∈ kids → l + 1 + lvT t ≤ 64 := by
    have : ∀ (ks : List Tr) (t : Tr), t ∈ ks → lvT t ≤ lmax (lvTs ks) := by
      intro ks
      induction ks with
      | nil => intro t ht; simp at ht
      | cons x r ih =>
        intro t ht
        rw [lvTs, lmax]
        rcases List.mem_cons.1 ht with rfl | ht
        · exact Nat.le_max_left _ _
        · exact Nat.le_trans (ih t ht) (Nat.le_max_right _ _)
    intro t ht
    have := this kids t ht
    omega
  obtain ⟨ks, j, ek, hj, f0, h0⟩ : ∃ ks j, ers ks = ers kids ∧ Suf L j (41 :: rest) ∧ Gt (fun f => if (tok L (tok L (tok L a).nx).nx).kind = 11 then .ok [] (tok L (tok L a).nx).nx else (pExpr L f (tok L (tok L a).nx).nx (l + 1)).bind fun x a2 => pArgs L f [x] a2 (l + 1)) ks j := by
    cases kids with
    | nil =>
      have hy' : Suf L (tok L (tok L a).nx).nx (41 :: rest) := hy
      exact ⟨[], _, rfl, hy', gt_eq (gt_const rfl) fun f => by rw [hy'.kind, if_pos e41]⟩
    | cons t r =>
      have hy' : Suf L (tok L (tok L a).nx).nx (inT it t ++ (moreA it r ++ (41 :: rest))) := by rw [argA, List.append_assoc] at hy; exact hy
      have hrest : FrA (moreA it r ++ (41 :: rest)) ∧ (kd (moreA it r ++ (41 :: rest)) = 11 ∨ kd (moreA it r ++ (41 :: rest)) = 12) := by
        cases r with
        | nil => exact ⟨fr_of (by decide), .inl e41⟩
        | cons y r => rw [moreA]; exact ⟨fr_of (by decide), .inr (kd_44 _).1⟩
      obtain ⟨t', j, et, hj, hg⟩ := h t (by simp) L _ (l + 1) _ hy'.sf hrest.1 (by omega) (by omega) (by omega) (by omega) (by omega) (by omega) (hlv t (by simp))
      obtain ⟨ks, j2, ek, hj2, hg2⟩ := args_read r (fun y hy => ⟨h y (by simp [hy]), hlv y (by simp [hy])⟩) [t'] j hj
      refine ⟨t' :: ks, j2, by rw [ers, ers, et, ek], hj2, gt_eq (gt_bind (q := fun f x j => pArgs L f [x] j (l + 1)) hg hg2) fun f => ?_⟩
      rw [if_neg (by rw [hy'.kind]; exact hc t (by simp) _ hrest.1)]
  have hz := hj.nx
  rw [h41.2] at hz
  refine ⟨.node 2 nm b 0 ks, _, by rw [er, er, ek], hz, gt_succ (gt_succ ⟨f0, fun f hf' => ?_⟩)⟩
  show pPart L (f + 1 + 1) a l = _
  rw [pPart, hs.kind, e2, if_pos rfl, hb, bind_ok, hx.kind, if_pos h40.1, pList, hx.enter (l := l) h40.1 (by omega), bind_ok, hw.2.1]
  rw [show (if (tok L (tok L (tok L a).nx).nx).kind = 11 then Res.ok [] (tok L (tok L a).nx).nx else (pExpr L f (tok L (tok L a).nx).nx (l + 1)).bind fun x a2 => pArgs L f [x] a2 (l + 1)) = .ok ks j from h0 f hf', bind_ok, hj.take h41.1, bind_ok, bind_ok]

end Go.Proofs.YthpkcageimhgaaaDoor

namespace Go.Proofs.YthpkcageimhgaaaDoor

/-- a word of the language, and a blank -/
theorem kd_kw {w r : List UInt8} {k : Nat} (h0 : w ≠ []) (hw : w.all inWd = true) (hk : wkd w = k) : kd (w ++ (32 :: r)) = k ∧ nxs (w ++ (32 :: r)) = 32 :: r := by
  have h := kd_word h0 hw (r := 32 :: r) (fr_of (by decide))
  exact ⟨h.1.trans hk, h.2.2⟩
theorem ex_let {nm s1 s2 : List UInt8} {x y : Tr} {v1 v2 at' : Nat} (hn : NmOk nm) (hx : REx s1 x v1) (hy : REx s2 y v2) : REx ([108, 101, 116, 32] ++ nm ++ [32, 61, 32] ++ s1 ++ [59, 32] ++ s2) (.node 9 nm at' 0 [x, y]) (1 + max v1 v2) := fun L a l rest hs hf h10 h15 h16 h17 h18 h19 hl => by
  have e : [108, 101, 116, 32] ++ nm ++ [32, 61, 32] ++ s1 ++ [59, 32] ++ s2 ++ rest = [108, 101, 116] ++ (32 :: (nm ++ (32 :: (61 :: 32 :: (s1 ++ (59 :: 32 :: (s2 ++ rest))))))) := by simp
  rw [e] at hs
  have k0 := kd_kw (w := [108, 101, 116]) (r := nm ++ (32 :: (61 :: 32 :: (s1 ++ (59 :: 32 :: (s2 ++ rest)))))) (k := 5) (by simp) (by decide) (by decide)
  have n0 := hs.nx
  rw [k0.2] at n0
  have hw := kd_word hn.1 hn.2.2.2 (r := 32 :: (61 :: 32 :: (s1 ++ (59 :: 32 :: (s2 ++ rest))))) (fr_of (by decide))
  have m0 := Sf.sp n0
  have e2 := hw.1.trans hn.2.2.1
  obtain ⟨b, hb⟩ := m0.name e2 (by rw [hw.2.1]; exact hn.2.1)
  have n1 := m0.nx
  rw [hw.2.2] at n1
  have m1 := Sf.sp n1
  have k1 := kd_eq1 (s1 ++ (59 :: 32 :: (s2 ++ rest)))
  have n2 := m1.nx
  rw [k1.2] at n2
  have k2 := kd_59 (32 :: (s2 ++ rest))
  have q2 := k2.1
  obtain ⟨x', j1, ex, hj1, f1, g1⟩ := hx L _ (l + 1) _ (Sf.sp n2) (fr_of (by decide)) (by omega) (by omega) (by omega) (by omega) (by omega) (by omega) (by omega)
  have n3 := hj1.nx
  rw [k2.2] at n3
  obtain ⟨y', j2, ey, hj2, f2, g2⟩ := hy L _ (l + 1) rest (Sf.sp n3) hf h10 h15 h16 h17 h18 h19 (by omega)
  refine ⟨.node 9 nm b 0 [x', y'], j2, by rw [er, er, ers, ers, ers, ers, ers, ers, ex, ey], hj2, gt_succ ⟨max f1 f2, fun f hf' => ?_⟩⟩
  show pExpr L (f + 1) a l = _
  rw [pExpr, hs.kind, if_pos k0.1, hs.enter (l := l) k0.1 (by omega), bind_ok, hb, bind_ok, m1.take k1.1, bind_ok, show pExpr L f _ (l + 1) = .ok x' j1 from g1 f (by omega), bind_ok, hj1.take q2, bind_ok, show pExpr L f _ (l + 1) = .ok y' j2 from g2 f (by omega), bind_ok, hw.2.1]
theorem ex_need {s1 s2 s3 : List UInt8} {x y z : Tr} {v1 v2 v3 at' : Nat} (hx : RSm s1 x v1) (hy : RSm s2 y v2) (hz : REx s3 z v3) : REx ([110, 101, 101, 100, 32] ++ s1 ++ [32, 61, 61, 32] ++ s2 ++ [59, 32] ++ s3) (.node 10 [] at' 0 [x, y, z]) (1 + max (max v1 v2) v3) := fun L a l rest hs hf h10 h15 h16 h17 h18 h19 hl => by
  have e : [110, 101, 101, 100, 32] ++ s1 ++ [32, 61, 61, 32] ++ s2 ++ [59, 32] ++ s3 ++ rest = [110, 101, 101, 100] ++ (32 :: (s1 ++ (32 :: (61 :: 61 :: 32 :: (s2 ++ (59 :: 32 :: (s3 ++ rest))))))) := by simp
  rw [e] at hs
  have k0 := kd_kw (w := [110, 101, 101, 100]) (r := s1 ++ (32 :: (61 :: 61 :: 32 :: (s2 ++ (59 :: 32 :: (s3 ++ rest)))))) (k := 6) (by simp) (by decide) (by decide)
  have n0 := hs.nx
  rw [k0.2] at n0
  have k1 := kd_eq2 (32 :: (s2 ++ (59 :: 32 :: (s3 ++ rest))))
  have k1s := kd_sp (61 :: 61 :: 32 :: (s2 ++ (59 :: 32 :: (s3 ++ rest))))
  have q1 : kd (32 :: (61 :: 61 :: 32 :: (s2 ++ (59 :: 32 :: (s3 ++ rest))))) = 15 := k1s.1.trans k1.1
  obtain ⟨x', j1, ex, hj1, hg1⟩ := hx L _ (l + 1) _ (Sf.sp n0) (fr_of (by decide)) (by omega) (by omega) (by omega) (by omega)
  obtain ⟨f1, g1⟩ := hg1 x' j1 (sumL_stop x' hj1 (by omega) (by omega))
  have n1 := hj1.nx
  rw [k1s.2.2, k1.2] at n1
  have k2 := kd_59 (32 :: (s3 ++ rest))
  have q2 := k2.1
  obtain ⟨y', j2, ey, hj2, hg2⟩ := hy L _ (l + 1) _ (Sf.sp n1) (fr_of (by decide)) (by omega) (by omega) (by omega) (by omega)
  obtain ⟨f2, g2⟩ := hg2 y' j2 (sumL_stop y' hj2 (by omega) (by omega))
  have n2 := hj2.nx
  rw [k2.2] at n2
  obtain ⟨z', j3, ez, hj3, f3, g3⟩ := hz L _ (l + 1) rest (Sf.sp n2) hf h10 h15 h16 h17 h18 h19 (by omega)
  refine ⟨.node 10 [] 0 0 [x', y', z'], j3, by rw [er, er, ers, ers, ers, ers, ers, ers, ers, ers, ex, ey, ez], hj3, gt_succ ⟨max f1 (max f2 f3), fun f hf' => ?_⟩⟩
  show pExpr L (f + 1) a l = _
  rw [pExpr, hs.kind, k0.1, if_neg (by decide), if_pos rfl, hs.enter (l := l) k0.1 (by omega), bind_ok, show pSum L f _ (l + 1) = .ok x' j1 from g1 f (by omega), bind_ok, hj1.take q1, bind_ok, show pSum L f _ (l + 1) = .ok y' j2 from g2 f (by omega), bind_ok, hj2.take q2, bind_ok, show pExpr L f _ (l + 1) = .ok z' j3 from g3 f (by omega), bind_ok]
theorem ex_if {s1 s2 s3 : List UInt8} {x y z : Tr} {v1 v2 v3 at' : Nat} (hx : REx s1 x v1) (hy : REx s2 y v2) (hz : REx s3 z v3) : REx ([105, 102, 32] ++ s1 ++ [32, 116, 104, 101, 110, 32] ++ s2 ++ [32, 101, 108, 115, 101, 32] ++ s3) (.node 11 [] at' 0 [x, y, z]) (1 + max (max v1 v2) v3) := fun L a l rest hs hf h10 h15 h16 h17 h18 h19 hl => by
  have e : [105, 102, 32] ++ s1 ++ [32, 116, 104, 101, 110, 32] ++ s2 ++ [32, 101, 108, 115, 101, 32] ++ s3 ++ rest = [105, 102] ++ (32 :: (s1 ++ (32 :: ([116, 104, 101, 110] ++ (32 :: (s2 ++ (32 :: ([101, 108, 115, 101] ++ (32 :: (s3 ++ rest)))))))))) := by simp
  rw [e] at hs
  have k0 := kd_kw (w := [105, 102]) (r := s1 ++ (32 :: ([116, 104, 101, 110] ++ (32 :: (s2 ++ (32 :: ([101, 108, 115, 101] ++ (32 :: (s3 ++ rest))))))))) (k := 7) (by simp) (by decide) (by decide)
  have n0 := hs.nx
  rw [k0.2] at n0
  have k1 := kd_kw (w := [116, 104, 101, 110]) (r := s2 ++ (32 :: ([101, 108, 115, 101] ++ (32 :: (s3 ++ rest))))) (k := 8) (by simp) (by decide) (by decide)
  have k1s := kd_sp ([116, 104, 101, 110] ++ (32 :: (s2 ++ (32 :: ([101, 108, 115, 101] ++ (32 :: (s3 ++ rest)))))))
  have q1 := k1s.1.trans k1.1
  obtain ⟨x', j1, ex, hj1, f1, g1⟩ := hx L _ (l + 1) _ (Sf.sp n0) (fr_of (by decide)) (by omega) (by omega) (by omega) (by omega) (by omega) (by omega) (by omega)
  have n1 := hj1.nx
  rw [k1s.2.2, k1.2] at n1
  have k2 := kd_kw (w := [101, 108, 115, 101]) (r := s3 ++ rest) (k := 9) (by simp) (by decide) (by decide)
  have k2s := kd_sp ([101, 108, 115, 101] ++ (32 :: (s3 ++ rest)))
  have q2 := k2s.1.trans k2.1
  obtain ⟨y', j2, ey, hj2, f2, g2⟩ := hy L _ (l + 1) _ (Sf.sp n1) (fr_of (by decide)) (by omega) (by omega) (by omega) (by omega) (by omega) (by omega) (by omega)
  have n2 := hj2.nx
  rw [k2s.2.2, k2.2] at n2
  obtain ⟨z', j3, ez, hj3, f3, g3⟩ := hz L _ (l + 1) rest (Sf.sp n2) hf h10 h15 h16 h17 h18 h19 (by omega)
  refine ⟨.node 11 [] 0 0 [x', y', z'], j3, by rw [er, er, ers, ers, ers, ers, ers, ers, ers, ers, ex, ey, ez], hj3, gt_succ ⟨max f1 (max f2 f3), fun f hf' => ?_⟩⟩
  show pExpr L (f + 1) a l = _
  rw [pExpr, hs.kind, k0.1, if_neg (by decide), if_neg (by decide), if_pos rfl, hs.enter (l := l) k0.1 (by omega), bind_ok, show pExpr L f _ (l + 1) = .ok x' j1 from g1 f (by omega), bind_ok, hj1.take q1, bind_ok, show pExpr L f _ (l + 1) = .ok y' j2 from g2 f (by omega), bind_ok, hj2.take q2, bind_ok, show pExpr L f _ (l + 1) = .ok z' j3 from g3 f (by omega), bind_ok]

/-- all that is said of one -/
structure Rd (it : Nat → List UInt8) (t : Tr) : Prop where
  ex : REx (inT it t) t (lvT t)
  nc : NoC (inT it t)
  fs : 1 ≤ hT t → FsK (inT it t)
  sm : 2 ≤ hT t → RSm (inT it t) t (lvT t)
  pd : 3 ≤ hT t → RPd (inT it t) t (lvT t)
  pt : 4 ≤ hT t → RPt (inT it t) t (lvT t)
theorem Rd.pt4 {it : Nat → List UInt8} {t : Tr} (h : Rd it t) : RPt (par (hT t) 4 (inT it t)) t (px (hT t) 4 (lvT t)) := by
  unfold par px
  by_cases e : hT t < 4
  · rw [if_pos e, if_pos e]; exact pt_par h.ex
  · rw [if_neg e, if_neg e]; exact h.pt (by omega)
theorem Rd.pd3 {it : Nat → List UInt8} {t : Tr} (h : Rd it t) : RPd (par (hT t) 3 (inT it t)) t (px (hT t) 3 (lvT t)) := by
  unfold par px
  by_cases e : hT t < 3
  · rw [if_pos e, if_pos e]; exact pd_of_pt (pt_par h.ex)
  · rw [if_neg e, if_neg e]; exact h.pd (by omega)
theorem Rd.sm2 {it : Nat → List UInt8} {t : Tr} (h : Rd it t) : RSm (par (hT t) 2 (inT it t)) t (px (hT t) 2 (lvT t)) := by
  unfold par px
  by_cases e : hT t < 2
  · rw [if_pos e, if_pos e]; exact sm_of_pd (pd_of_pt (pt_par h.ex))
  · rw [if_neg e, if_neg e]; exact h.sm (by omega)
theorem Rd.fsm {it : Nat → List UInt8} {t : Tr} (h : Rd it t) {m : Nat} (hm : 1 ≤ m) : FsK (par (hT t) m (inT it t)) := by
  unfold par
  by_cases e : hT t < m
  · rw [if_pos e]; exact fs_par _
  · rw [if_neg e]; exact h.fs (by omega)
theorem par0 (h : Nat) (s : List UInt8) : par h 0 s = s := by unfold par; rw [if_neg (by omega)]
theorem nc_of {s : List UInt8} {w r : List UInt8} {k : Nat} (e : s = w ++ (32 :: r)) (h0 : w ≠ []) (hw : w.all inWd = true) (hk : wkd w = k) (h : k ≠ 11) : NoC s := fun rest _ => by
  rw [e, List.append_assoc, List.cons_append, (kd_kw h0 hw hk).1]; exact h
/-- of the four kinds -/
theorem Rd.of4 {it : Nat → List UInt8} {t : Tr} (h : RPt (inT it t) t (lvT t)) (hF : FsK (inT it t)) : Rd it t := ⟨ex_of_sm (sm_of_pd (pd_of_pt h)) hF, hF.noC, fun _ => hF, fun _ => sm_of_pd (pd_of_pt h), fun _ => pd_of_pt h, fun _ => h⟩
theorem Rd.of3 {it : Nat → List UInt8} {t : Tr} (e : hT t = 3) (h : RPd (inT it t) t (lvT t)) (hF : FsK (inT it t)) : Rd it t := ⟨ex_of_sm (sm_of_pd h) hF, hF.noC, fun _ => hF, fun _ => sm_of_pd h, fun _ => h, fun h4 => by omega⟩
theorem Rd.of2 {it : Nat → List UInt8} {t : Tr} (e : hT t = 2) (h : RSm (inT it t) t (lvT t)) (hF : FsK (inT it t)) : Rd it t := ⟨ex_of_sm h hF, hF.noC, fun _ => hF, fun _ => h, fun h3 => by omega, fun h4 => by omega⟩
theorem Rd.of1 {it : Nat → List UInt8} {t : Tr} (e : hT t = 1) (h : REx (inT it t) t (lvT t)) (hF : FsK (inT it t)) : Rd it t := ⟨h, hF.noC, fun _ => hF, fun h2 => by omega, fun h3 => by omega, fun h4 => by omega⟩
theorem Rd.of0 {it : Nat → List UInt8} {t : Tr} (e : hT t = 0) (h : REx (inT it t) t (lvT t)) (hN : NoC (inT it t)) : Rd it t := ⟨h, hN, fun h1 => by omega, fun h2 => by omega, fun h3 => by omega, fun h4 => by omega⟩

end Go.Proofs.YthpkcageimhgaaaDoor
