/- Package machine: ascending, what is collected. Package machine: ascending. Package machine: slices.SortFunc at cells. Package machine: slices.SortFunc at cells, whole. Plain facts on products of x less numbers: they tell lists apart. -/
import Derived.Test.YtaibngnabhmabakDoorMahO
import Derived.Maps.RangeWalk
import Derived.Shelf.SlSortCmp.WholeK
import Derived.Lib.Small
import Derived.Test.YtaibngnabhmabakDoorSrtC
import Derived.Shelf.SlSortCmp.NoneTotal
import Derived.Test.YtaibngnabhmabakDoorPlain
namespace Go.Proofs.YtaibngnabhmabakDoor
open Go.RowKit Go.Maps

/-- append(l, c): a cell more -/
theorem wpList_cel {ops : Array Oper} {rest : List Oper} {o : Oper} {act : Act} {Q : Exit → Act → World → Prop} (W : World) (hgd : o.guard = none) (s x : Operand)
    (ho : o.op = .call { callee := .builtin .append, args := #[s, x], argTypes := #[36, 36] }) (v : Value) (base : Nat) (l : List (Int × Int)) (z0 z1 : Int)
    (hown : CelR base W v l) (hs : act.eval s = v) (hx : act.eval x = .slice (some ⟨W.heap.size, 0, none⟩) 1 1) (hlen : l.length ≤ 4000000) (hbase : base ≤ W.heap.size)
    (h : ∀ v' w2, CelR base w2 v' (l ++ [(z0, z1)]) → Below base W w2 → W.grownBy w2 v.ownBlock → wpList Tryd.prog ops Q rest (act.put o.dst v') w2) :
    wpList Tryd.prog ops Q (o :: rest) act (W.alloc (.cells #[.int .i64 z0, .int .i64 z1] 39)) := by
  obtain ⟨cs, hcs⟩ : ∃ cs, cs = #[Value.int .i64 z0, .int .i64 z1] := ⟨_, rfl⟩
  rw [← hcs]
  have hbw : Below W.heap.size W (W.alloc (.cells cs 39)) := (Below.refl _ _).alloc (Nat.le_refl _) _
  obtain ⟨i0, hi, hz0, hz1, hz2⟩ := info_parts (show (Tryd.prog.info? 39).map (fun i => (i.zero, i.size, i.bytes)) = some (some (.agg #[.int .i64 0, .int .i64 0]), 2, 16) by kernel_rfl)
  have h1 : (W.alloc (.cells cs 39)).ownsRow base 39 2 v l.length (celv l) := World.ownsRow.alloc hown _
  refine wpList_append_own _ hgd s x 36 ho base 39 i0 _ 2 16 Tryd.underlying36 hi hz0 hz1 hz2 rfl (by decide) _ _ _ hs h1 ⟨W.heap.size, 0, none⟩ 1 1 cs.toList hx (by rw [hcs]; rfl) ?_ ?_ (by unfold maxLen; omega) (by omega) (by simp; omega) ?_
  · intro j t hj
    have hc : (W.alloc (.cells cs 39)).heap[W.heap.size]? = some (.cells cs 39 (0, 0)) := heap_alloc_new W _
    have hadd : (⟨W.heap.size, 0, none⟩ : Addr).add j = ⟨W.heap.size, j, none⟩ := by unfold Addr.add; split <;> simp_all
    rw [hadd]
    simp only [World.cell?, hc]
    simpa using hj
  · intro t ht
    rw [hcs] at ht
    have ht2 : t = .int .i64 z0 ∨ t = .int .i64 z1 := by simpa using ht
    rcases ht2 with rfl | rfl <;> rfl
  · intro v' w2 hown2 hgrow _
    have hB0 : Below base (W.alloc (.cells cs 39)) w2 := (Below.refl base _).grown hgrow (by simp; omega) (fun k hk => (h1.lt k hk).1)
    refine h v' w2 ?_ ((hbw.mono hbase).trans hB0) ⟨hgrow.os, hgrow.tape, hgrow.output, by have := hgrow.size; simp at this; omega, fun k hk hne => (hgrow.block k (by simp; omega) hne).trans (hbw.block k hk)⟩
    unfold CelR
    rw [celv_app, List.length_append]
    rw [hcs] at hown2
    simpa [celv] using hown2

theorem same_int (a b : Int) : (Lit.int .i64 a).sameKey (Lit.int .i64 b) = decide (a = b) := by
  by_cases h : a = b
  · subst h
    simp [Lit.sameKey]
  · rw [sameKey_ne (by intro e; injection e with _ e; exact h e), decide_eq_false h]
/-- what is collected -/
structure AsI (B r n : Nat) (D : DataW Unit) (left : Lit → Bool) (cnt : Nat) (l : List (Int × Int)) (v : Value) (w W : World) : Prop where
  rg : W.ranges Tryd.prog 3 (plainElem Tryd.prog 3) B r n D left cnt
  own : CelR w.heap.size W v l
  mem : ∀ x y, (x, y) ∈ l ↔ (x ≠ 0 ∧ I64 x ∧ Maps.has D (.int .i64 x) = true ∧ left (.int .i64 x) = false ∧ D.atKey (.int .i64 x) (.lit (.int .i64 0)) = .lit (.int .i64 y))
  nd : (l.map Prod.fst).Nodup
  bel : Below w.heap.size w W
  len : l.length + cnt ≤ n
theorem mem_step {D : DataW Unit} {left : Lit → Bool} {l : List (Int × Int)} {x c : Int} (hx : x ≠ 0) (h64 : I64 x) (hl : left (.int .i64 x) = true) (hat : ∀ zd, D.atKey (.int .i64 x) zd = .lit (.int .i64 c))
    (h : ∀ x y, (x, y) ∈ l ↔ (x ≠ 0 ∧ I64 x ∧ Maps.has D (.int .i64 x) = true ∧ left (.int .i64 x) = false ∧ D.atKey (.int .i64 x) (.lit (.int .i64 0)) = .lit (.int .i64 y))) :
    ∀ x' y, (x', y) ∈ l ++ [(x, c)] ↔ (x' ≠ 0 ∧ I64 x' ∧ Maps.has D (.int .i64 x') = true ∧ (fun z : Lit => left z && !z.sameKey (.int .i64 x)) (.int .i64 x') = false ∧ D.atKey (.int .i64 x') (.lit (.int .i64 0)) = .lit (.int .i64 y)) := fun x' y => by
  rw [List.mem_append, h x' y]
  simp only [same_int]
  by_cases e : x' = x
  · subst e
    simp only [hl, List.mem_singleton, Prod.mk.injEq, true_and, decide_true, Bool.not_true, Bool.and_false]
    constructor
    · rintro (⟨_, _, _, h4, _⟩ | rfl)
      · cases h4
      · exact ⟨hx, h64, has_true_of_atKey hat, hat _⟩
    · rintro ⟨_, _, _, h5⟩
      rw [hat] at h5
      injection h5 with h5
      injection h5 with _ h5
      exact .inr h5.symm
  · simp [e]
theorem mem_skip {D : DataW Unit} {left : Lit → Bool} {l : List (Int × Int)}
    (h : ∀ x y, (x, y) ∈ l ↔ (x ≠ 0 ∧ I64 x ∧ Maps.has D (.int .i64 x) = true ∧ left (.int .i64 x) = false ∧ D.atKey (.int .i64 x) (.lit (.int .i64 0)) = .lit (.int .i64 y))) :
    ∀ x' y, (x', y) ∈ l ↔ (x' ≠ 0 ∧ I64 x' ∧ Maps.has D (.int .i64 x') = true ∧ (fun z : Lit => left z && !z.sameKey (.int .i64 0)) (.int .i64 x') = false ∧ D.atKey (.int .i64 x') (.lit (.int .i64 0)) = .lit (.int .i64 y)) := fun x' y => by
  rw [h x' y]
  simp only [same_int]
  by_cases e : x' = 0
  · simp [e]
  · simp [e]

end Go.Proofs.YtaibngnabhmabakDoor

namespace Go.Proofs.YtaibngnabhmabakDoor
open Go.RowKit Go.Maps

theorem wf_boundsM {x : Int} (h : (Lit.int .i64 x).wf = true) : I64 x := bounds_i64 h
/-- what is told, ascending, but for cell 0 -/
def AscC (cs l : List (Int × Int)) : Prop := l.Pairwise (fun a b => a.1 < b.1) ∧ ∀ x y, (x, y) ∈ l ↔ (x ≠ 0 ∧ I64 x ∧ 0 ≤ finz cs x ∧ cvl cs x = y)

theorem own_ne_iter {base : Nat} {W : World} {v : Value} {l : List (Int × Int)} {B r n : Nat} {D : DataW Unit} {left : Lit → Bool} {cnt : Nat} (h : CelR base W v l) (hr : W.ranges Tryd.prog 3 (plainElem Tryd.prog 3) B r n D left cnt) : some B ≠ v.ownBlock ∧ some r ≠ v.ownBlock := by
  obtain ⟨es, cl, si, se, c0, h1, _, _, _, h2, _⟩ := hr
  rcases h.2 with ⟨rfl, _⟩ | ⟨g, cap, cur, rfl, _, hg, _⟩
  · exact ⟨(by intro e; cases e), (by intro e; cases e)⟩
  · constructor
    · intro e
      have e' : some B = some g := e
      injection e' with e'
      subst e'
      rw [hg] at h1
      injection h1 with h1
      cases h1
    · intro e
      have e' : some r = some g := e
      injection e' with e'
      subst e'
      rw [hg] at h2
      injection h2 with h2
      cases h2

end Go.Proofs.YtaibngnabhmabakDoor

namespace Go.Proofs.YtaibngnabhmabakDoor
open Go.RowKit Go.Maps

set_option maxHeartbeats 1000000 in
theorem nani_any (x : Int) (w : World) : Calls Tryd.prog 56 #[.int .i64 x] w fun e w' => e = .returned (.bool false) ∧ w' = w := by
  go_enter Tryd.func56, Tryd.ntmps56
  go_wp2_with fail
  go_ret
  exact ⟨by simp, rfl⟩

set_option maxHeartbeats 1000000 in
theorem cmpi_any (x y : Int) (w : World) : Calls Tryd.prog 43 #[.int .i64 x, .int .i64 y] w fun e w' => e = .returned (.int .i64 (Lib.compareInt x y)) ∧ w' = w := by
  go_enter Tryd.func43, Tryd.ntmps43
  go_wp2_with fail
  refine (nani_any x _).mono ?_
  rintro e w1 ⟨rfl, h1⟩
  rw [h1]
  go_wp2_with fail
  refine (nani_any y _).mono ?_
  rintro e w2 ⟨rfl, h2⟩
  rw [h2]
  go_wp2_with fail
  all_goals (go_ret; refine ⟨?_, rfl⟩; unfold Lib.compareInt; (repeat' split) <;> first | rfl | (exfalso; omega))

end Go.Proofs.YtaibngnabhmabakDoor

namespace Go.Proofs.YtaibngnabhmabakDoor
open Go.RowKit Go.Maps

/-- a cell's two numbers -/
def enc2 (x : Int × Int) : List Value := [.int .i64 x.1, .int .i64 x.2]
def cf2 (x y : Int × Int) : Int := Lib.compareInt x.1 y.1
theorem lt2 (x y : Int × Int) : ltOf cf2 x y = decide (x.1 < y.1) := by
  unfold ltOf cf2 Lib.compareInt
  by_cases h1 : x.1 < y.1
  · simp [h1]
  · by_cases h2 : y.1 < x.1 <;> simp [h1, h2]
theorem swo2 : Sort.SWO (ltOf cf2) where
  irrefl x := by rw [lt2]; simp
  trans x y z h1 h2 := by rw [lt2] at *; simp at *; omega
  ntrans x y z h1 h2 := by rw [lt2] at *; simp at *; omega

theorem celv_flat (l : List (Int × Int)) (t : Nat) (h : t < l.length * 2) : (celv l)[t]? = some (Sort.flatK enc2 2 l.toArray)[t]! := by
  rw [Sort.get_flatK enc2 2 _ t (by simpa using h)]
  have hj : t / 2 < l.length := by omega
  have hc : (l.toArray)[t / 2]! = cat l (t / 2) := by
    rw [getElem!_pos _ _ (by simpa using hj)]
    simp [cat, hj]
  rw [hc]
  have ha := celv_at l (t / 2) hj
  rcases Nat.mod_two_eq_zero_or_one t with h0 | h0
  · rw [h0]
    have e : t / 2 * 2 = t := by omega
    rw [e] at ha
    exact ha.1
  · rw [h0]
    have e : t / 2 * 2 + 1 = t := by omega
    rw [e] at ha
    exact ha.2

theorem srt_perm {l : List (Int × Int)} {d' : Array (Int × Int)} (h : Sort.PermIn 0 l.toArray.size l.toArray d') : d'.size = l.length ∧ d'.toList.Perm l := by
  obtain ⟨h1, _, h3⟩ := h
  have h1' : d'.size = l.length := by simpa using h1
  refine ⟨h1', ?_⟩
  have e1 : (d'.extract 0 l.toArray.size) = d' := by
    rw [← h1]
    simp
  have e2 : (l.toArray.extract 0 l.toArray.size).toList = l := by simp
  rw [e1, e2] at h3
  exact h3

theorem srt_up {n : Nat} {d' : Array (Int × Int)} (hn : d'.size = n) (h : Sort.SortedIn (ltOf cf2) 0 n d') : d'.toList.Pairwise (fun a b => a.1 ≤ b.1) := by
  rw [List.pairwise_iff_getElem]
  intro i j hi hj hij
  have hi' : i < d'.size := by simpa using hi
  have hj' : j < d'.size := by simpa using hj
  have := h i j (Nat.zero_le _) hij (by omega)
  rw [lt2, getElem!_pos d' i hi', getElem!_pos d' j hj'] at this
  have h2 := of_decide_eq_false this
  simp only [Array.getElem_toList]
  omega

theorem srt_heap (W : World) (g n : Nat) (d' : Array (Int × Int)) (os : Array Obj) (k : Nat) (hk : k < W.heap.size) :
    (sortWorldK enc2 2 W g 0 n d' os).heap[k]? = if g = k then (W.heap[k]?).map (Sort.onCells (Sort.putCells id 0 (Sort.flatK enc2 2 d'))) else W.heap[k]? := by
  show ((W.heap.modify g (Sort.onCells (Sort.putCells id 0 (Sort.flatK enc2 2 d')))) ++ os)[k]? = _
  rw [Array.getElem?_append_left (by simpa using hk), Array.getElem?_modify]

theorem srt_cel {base : Nat} {W : World} {g cap : Nat} {l : List (Int × Int)} (h : CelR base W (.slice (some ⟨g, 0, none⟩) l.length cap) l) (hg0 : g < W.heap.size) (n : Nat) (d' : Array (Int × Int)) (os : Array Obj) (hd : d'.size = l.length) :
    CelR base (sortWorldK enc2 2 W g 0 n d' os) (.slice (some ⟨g, 0, none⟩) l.length cap) d'.toList := by
  obtain ⟨h1, h2⟩ := h
  have hdl : d'.toList.length = l.length := by simpa using hd
  refine ⟨celv_len _, .inr ?_⟩
  rcases h2 with ⟨h2, _⟩ | ⟨g', cap', cur, hv, hb, hgc, hn, hm, hs, ht⟩
  · cases h2
  · injection hv with hv1 hv2 hv3
    injection hv1 with hv1
    injection hv1 with hv1
    subst hv1 hv3
    refine ⟨g, cap, Sort.putCells id 0 (Sort.flatK enc2 2 d') cur, by rw [hdl], hb, ?_, by rw [hdl]; exact hn, hm, by simpa [Sort.putCells] using hs, ?_⟩
    · rw [srt_heap W g n d' os g hg0, if_pos rfl, hgc]
      rfl
    · apply List.ext_getElem?
      intro t
      by_cases hlt : t < d'.toList.length * 2
      · have hcu : t < cur.size := by rw [hs]; rw [hdl] at hlt; omega
        rw [List.getElem?_take_of_lt hlt, celv_flat _ t hlt]
        rw [Array.getElem?_toList]
        unfold Sort.putCells
        rw [Array.getElem?_mapIdx, Array.getElem?_eq_getElem hcu, Option.map_some, if_pos ⟨Nat.zero_le _, by rw [Sort.size_flatK]; rw [hdl] at hlt; omega⟩]
        rfl
      · rw [List.getElem?_take_eq_none (by omega), List.getElem?_eq_none (by rw [celv_len]; omega)]

theorem srt_below {base : Nat} {W : World} {g : Nat} (hb : base ≤ g) (hg0 : g < W.heap.size) (n : Nat) (d' : Array (Int × Int)) (os : Array Obj) : Below base W (sortWorldK enc2 2 W g 0 n d' os) := by
  refine ⟨rfl, rfl, rfl, size_sortWorldK_c enc2 2 W g 0 n d' os, fun k hk => ?_⟩
  rw [srt_heap W g n d' os k (by omega), if_neg (by omega)]

end Go.Proofs.YtaibngnabhmabakDoor

namespace Go.Proofs.YtaibngnabhmabakDoor.Pol

/-- the product of x less each of a list, as a polynomial -/
def pl : List Int → S
  | [] => one
  | r :: l => mul (pl l) (lin r)
/-- .. at a place -/
def plv (x : Int) : List Int → Int
  | [] => 1
  | r :: l => plv x l * (x - r)

theorem lin_at (g : S) (r : Int) (n : Nat) : mul g (lin r) (n + 1) = g n - r * g (n + 1) := by
  rw [mul_lin]; simp [sub, sh, sc]
theorem lin_at0 (g : S) (r : Int) : mul g (lin r) 0 = - (r * g 0) := by
  rw [mul_lin]; simp [sub, sh, sc]
theorem pl_zero : ∀ (l : List Int) (j : Nat), l.length < j → pl l j = 0
  | [], j, h => by simp [pl, one]; simp at h; omega
  | r :: l, j, h => by
    simp at h
    obtain ⟨i, rfl⟩ : ∃ i, j = i + 1 := ⟨j - 1, by omega⟩
    rw [pl, lin_at, pl_zero l i (by omega), pl_zero l (i + 1) (by omega)]
    simp
theorem pl_top : ∀ (l : List Int), pl l l.length = 1
  | [] => by simp [pl, one]
  | r :: l => by
    rw [pl, List.length_cons, lin_at, pl_top l, pl_zero l (l.length + 1) (by omega)]
    simp
theorem ps_lin (g : S) (x r : Int) : ∀ n, ps (mul g (lin r)) x (n + 1) = (x - r) * ps g x n + - (r * g n) * x ^ n
  | 0 => by simp [ps, lin_at0]
  | n + 1 => by
    rw [ps, ps_lin g x r n, lin_at, ps, Int.pow_succ]
    grind
theorem ps_pl (x : Int) : ∀ (l : List Int), ps (pl l) x (l.length + 1) = plv x l
  | [] => by simp [ps, pl, one, plv]
  | r :: l => by
    rw [pl, List.length_cons, ps_lin, ps_pl x l, pl_zero l (l.length + 1) (by omega), plv]
    grind
theorem pl_perm {l m : List Int} (h : l.Perm m) : pl l = pl m := by
  induction h with
  | nil => rfl
  | cons x _ ih => rw [pl, pl, ih]
  | swap x y l => rw [pl, pl, pl, pl, mul_assoc, mul_assoc, mul_comm (lin y)]
  | trans _ _ h1 h2 => exact h1.trans h2
theorem plv_perm {x : Int} {l m : List Int} (h : l.Perm m) : plv x l = plv x m := by
  induction h with
  | nil => rfl
  | cons x _ ih => rw [plv, plv, ih]
  | swap a b l => simp only [plv]; grind
  | trans _ _ h1 h2 => exact h1.trans h2
theorem plv_root {p : Nat} (hp : Num.Prime p) (x : Int) : ∀ (l : List Int), (p : Int) ∣ plv x l → ∃ r, r ∈ l ∧ (p : Int) ∣ x - r
  | [], h => by
    rw [plv] at h
    have := Int.le_of_dvd (by decide) h
    have := hp.1
    omega
  | r :: l, h => by
    rw [plv] at h
    rcases prime_mul hp h with h | h
    · obtain ⟨r', h1, h2⟩ := plv_root hp x l h
      exact ⟨r', List.mem_cons_of_mem _ h1, h2⟩
    · exact ⟨r, List.mem_cons_self, h⟩
/-- what is the same times x - r is the same -/
theorem lin_cancel {p : Nat} {f g : S} {r : Int} {N : Nat} (hf : ∀ j, N < j → f j = 0) (hg : ∀ j, N < j → g j = 0) (h : Eqp p (mul f (lin r)) (mul g (lin r))) : Eqp p f g := by
  intro n
  rcases Nat.lt_or_ge N n with hn | hn
  · rw [hf n hn, hg n hn]; simp
  · obtain ⟨k, hk⟩ : ∃ k, n + k = N := ⟨N - n, by omega⟩
    induction k generalizing n with
    | zero =>
      have := h (n + 1)
      rw [lin_at, lin_at, hf (n + 1) (by omega), hg (n + 1) (by omega)] at this
      simpa using this
    | succ k ih =>
      have h1 := h (n + 1)
      have h2 := ih (n + 1) (by omega) (by omega)
      rw [lin_at, lin_at] at h1
      have h3 := Int.dvd_add h1 (Int.dvd_mul_of_dvd_right h2 (b := r))
      have e : f n - r * f (n + 1) - (g n - r * g (n + 1)) + r * (f (n + 1) - g (n + 1)) = f n - g n := by grind
      rw [e] at h3
      exact h3
/-- one polynomial, one list of roots -/
theorem pl_inj {p : Nat} (hp : Num.Prime p) : ∀ (l m : List Int), (∀ x, x ∈ l → 0 ≤ x ∧ x < p) → (∀ x, x ∈ m → 0 ≤ x ∧ x < p) → l.length = m.length → Eqp p (pl l) (pl m) → l.Perm m
  | [], m, _, _, h, _ => by
    have : m = [] := List.length_eq_zero_iff.1 (by simpa using h.symm)
    rw [this]
  | x :: l, m, hl, hm, hn, h => by
    have h1 : (p : Int) ∣ plv x m := by
      have e1 : plv x (x :: l) = 0 := by rw [plv]; simp
      have e2 := ps_congr (p := p) x ((x :: l).length + 1) (fun j _ => h j)
      rw [ps_pl, e1, hn, ps_pl] at e2
      have := Int.dvd_neg.2 e2
      simpa using this
    obtain ⟨r, hr, hd⟩ := plv_root hp x m h1
    have hx := hl x List.mem_cons_self
    have hr2 := hm r hr
    obtain rfl : x = r := eq_of_dvd hd hx.1 hx.2 hr2.1 hr2.2
    have hpe : m.Perm (x :: m.erase x) := List.perm_cons_erase hr
    rw [pl_perm hpe] at h
    have hle : (m.erase x).length = l.length := by
      have := hpe.length_eq
      simp at hn this ⊢
      omega
    have ih := pl_inj hp l (m.erase x) (fun y hy => hl y (List.mem_cons_of_mem _ hy)) (fun y hy => hm y (List.mem_of_mem_erase hy)) hle.symm
      (lin_cancel (N := l.length) (fun j hj => pl_zero l j hj) (fun j hj => pl_zero _ j (by omega)) h)
    exact (ih.cons x).trans hpe.symm
/-- products tell lists apart -/
theorem plv_tell {p : Nat} (hp : Num.Prime p) {l m : List Int} (hl : ∀ x, x ∈ l → 0 ≤ x ∧ x < p) (hm : ∀ x, x ∈ m → 0 ≤ x ∧ x < p) (hn : l.length = m.length)
    (xs : Nat → Int) (hu : ∀ i j, i < j → j < l.length → ¬ (p : Int) ∣ xs j - xs i) (hs : ∀ i, i < l.length → (p : Int) ∣ plv (xs i) l - plv (xs i) m) : l.Perm m := by
  refine pl_inj hp l m hl hm hn (fun j => ?_)
  rcases Nat.lt_or_ge j l.length with hj | hj
  · refine roots hp l.length (sub (pl l) (pl m)) xs hu (fun i hi => ?_) j hj
    have h := hs i hi
    rw [← ps_pl, ← ps_pl, ← hn] at h
    have e : ∀ (f g : S) (x : Int) n, ps (sub f g) x n = ps f x n - ps g x n := fun f g x n => by
      induction n with
      | zero => simp [ps]
      | succ n ih => rw [ps, ps, ps, ih]; simp only [sub]; grind
    have e2 : ps (sub (pl l) (pl m)) (xs i) (l.length + 1) = ps (sub (pl l) (pl m)) (xs i) l.length := by
      rw [ps]
      have : sub (pl l) (pl m) l.length = 0 := by
        unfold sub
        rw [pl_top]
        rw [show pl m l.length = 1 from by rw [hn]; exact pl_top m]
        rfl
      rw [this]
      simp
    rw [← e2, e]
    exact h
  · rcases Nat.lt_or_ge l.length j with h1 | h1
    · rw [pl_zero l j h1, pl_zero m j (by omega)]; simp
    · obtain rfl : j = l.length := by omega
      rw [pl_top, hn, pl_top]; simp

end Go.Proofs.YtaibngnabhmabakDoor.Pol
