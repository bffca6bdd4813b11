/- MachineWalks: the walk. Package machine: Run. Runs, plainly: a greater limit; one ascending list. Runs, plainly: what is told is told for good. attestref6.Run, plainly: the least cell above a number, again and again. attestlaw6: rans, plain. attestlaw6: plain, lives. -/
import Derived.Test.YtaibngnabhmabajDoorBbBB
import Derived.Test.YtaibngnabhmabajDoorFld
import Derived.Test.YtaibngnabhmabajDoorBbAW
namespace Go.Proofs.YtaibngnabhmabajDoor
open Go.RowKit Go.Maps

theorem stvs_int : ∀ (l : List (List Int)) (m : Nat), m < (stvs l).length → ∃ x, (stvs l)[m]? = some (.int .i64 x) := fun l m hm => by
  have h : ∀ v, v ∈ stvs l → ∃ x, v = .int .i64 x := fun v hv => by
    unfold stvs at hv
    obtain ⟨y, _, h2⟩ := List.mem_flatMap.1 hv
    obtain ⟨x, _, rfl⟩ := List.mem_map.1 h2
    exact ⟨x, rfl⟩
  obtain ⟨x, hx⟩ := h _ (List.getElem_mem hm)
  exact ⟨x, by rw [List.getElem?_eq_getElem hm, hx]⟩
theorem error_same (z : Int) (w : World) (hL : Laid w) : Calls Tryd.prog 11 #[errV z, .int .i64 z] w fun e w' => e = .returned (.bool true) ∧ Below w.heap.size w w' := by
  by_cases hz : z = 0
  · subst hz
    refine (error_nil 0 w).mono ?_
    rintro e w' ⟨rfl, rfl⟩
    exact ⟨rfl, Below.refl _ _⟩
  · rw [errV_nz hz]
    refine (error_hit z z w hL).mono ?_
    rintro e w' ⟨rfl, hb⟩
    exact ⟨by simp, hb⟩

theorem eqI_runM (n : Nat) (a : Int) (w : World) : (Op.equalIn (n + 1) 3 (.int .i64 a) (.int .i64 a)).run Tryd.prog w = .ok true w := by
  simp [Op.equalIn, run_underlying Tryd.underlying3, Result.andThen]
theorem part_runM (cs : Array Value) (i : Nat) (v : Value) (h : cs[i]? = some v) (w : World) : (part 3 cs i).run Tryd.prog w = .ok v w := by
  simp [part, Tryd.isAgg3, h, Result.andThen]
theorem eq3_runM (n : Nat) (a0 a1 a2 : Int) (w : World) : (Op.equalIn (n + 1 + 1) 102 (.agg #[.int .i64 a0, .int .i64 a1, .int .i64 a2]) (.agg #[.int .i64 a0, .int .i64 a1, .int .i64 a2])).run Tryd.prog w = .ok true w := by
  have e : ∀ (x : Int), (Op.equalIn (n + 1) 3 (.int .i64 x) (.int .i64 x)).run Tryd.prog w = .ok true w := fun x => eqI_runM n x w
  unfold Op.equalIn
  simp only [Sem.run_bind, run_underlying Tryd.underlying102, Result.andThen_ok, Tryd.sizeOf3]
  have p0 : ∀ (x0 x1 x2 : Value), (part 3 #[x0, x1, x2] (0 * 1)).run Tryd.prog w = .ok x0 w := fun x0 x1 x2 => part_runM _ _ _ rfl w
  have p1 : ∀ (x0 x1 x2 : Value), (part 3 #[x0, x1, x2] (1 * 1)).run Tryd.prog w = .ok x1 w := fun x0 x1 x2 => part_runM _ _ _ rfl w
  have p2 : ∀ (x0 x1 x2 : Value), (part 3 #[x0, x1, x2] (2 * 1)).run Tryd.prog w = .ok x2 w := fun x0 x1 x2 => part_runM _ _ _ rfl w
  rw [Std.Legacy.Range.forIn_eq_forIn_range']
  show ((Sem.run Tryd.prog (forIn [0, 1, 2] _ _) w).andThen _) = _
  simp only [List.forIn_cons, List.forIn_nil, Sem.run_bind, p0, e, Result.andThen_ok]
  simp [p1, p2, e, Result.andThen]
end Go.Proofs.YtaibngnabhmabajDoor

namespace Go.Proofs.YtaibngnabhmabajDoor
open Go.RowKit Go.Maps

theorem results_ctM {P : Program} {fn : Func} {p u : Tmp} {ty : TypeId} (h : fn.results = #[.cell p ty, .tmp u]) (tmps : Array Value) (w : World) (g : Nat) (tt : TypeId) (cs : Array Value) (fr : Nat × Nat) (d : TypeDesc)
    (hp : tmps.getD p undef = .pointer (some ⟨g, 0, none⟩)) (hg : w.heap[g]? = some (.cells cs tt fr))
    (hu : P.underlying ty = some d) (hd : (match d with | .struct _ | .array _ _ => true | _ => false) = true) (hi : (P.info? ty).map (·.size) = some cs.size) :
    (results fn tmps).run P w = .ok (.tuple #[.agg cs, tmps.getD u undef]) w := by
  have hp' : tmps[p]?.getD undef = .pointer (some ⟨g, 0, none⟩) := by simpa using hp
  simp [results, h, hp', asAddr, run_loadVar_row w g tt ty cs fr d hg hu hd hi]
theorem mgo_len (p : Nat) (L : List InsZ) (limit : Nat) : ∀ (f : Nat) (s : RM) (done l : List (List Int)) (cs : List (Int × Int)), mgo p L limit f s done = .good l cs → 0 < l.length ∧ l.length ≤ done.length + f
  | 0, _, _, _, _, h => by simp [mgo] at h
  | f + 1, s, done, l, cs, h => by
    rw [mgo] at h
    split at h
    · cases h
    · split at h
      · cases h
      · split at h
        · cases h
        · split at h
          · injection h with h1 _
            rw [← h1]
            simp
          · have := mgo_len p L limit f _ _ l cs h
            simp at this
            exact ⟨this.1, by omega⟩
theorem mgo_bad (p : Nat) (L : List InsZ) (limit : Nat) : ∀ (f : Nat) (s : RM) (done : List (List Int)) (z : Int), mgo p L limit f s done = .bad z → z ≠ 0
  | 0, _, _, _, h => by simp [mgo] at h; omega
  | f + 1, s, done, z, h => by
    rw [mgo] at h
    split at h
    · injection h with h; omega
    · split at h
      · injection h with h; omega
      · split at h
        · rename_i h1
          injection h with h
          rw [← h]
          exact h1
        · split at h
          · cases h
          · exact mgo_bad p L limit f _ _ z h
/-- what a run comes to: the first cell of its last step -/
def outv (l : List (List Int)) : Int := match (stvs l)[(l.length - 1) * 10 + 7]? with
  | some (.int _ x) => x
  | _ => 0
end Go.Proofs.YtaibngnabhmabajDoor

namespace Go.Proofs.YtaibngnabhmabajDoor
open Go.RowKit Go.Maps

theorem asc_pairs : ∀ {us vs : List (Int × Int)}, us.Pairwise (fun a b => a.1 < b.1) → vs.Pairwise (fun a b => a.1 < b.1) → (∀ x, x ∈ us ↔ x ∈ vs) → us = vs
  | [], [], _, _, _ => rfl
  | [], v :: vs, _, _, h => by have := (h v).2 (List.mem_cons_self ..); cases this
  | u :: us, [], _, _, h => by have := (h u).1 (List.mem_cons_self ..); cases this
  | u :: us, v :: vs, hu, hv, h => by
    rw [List.pairwise_cons] at hu hv
    have huv : u = v := by
      rcases List.mem_cons.1 ((h u).1 (List.mem_cons_self ..)) with e | e
      · exact e
      · rcases List.mem_cons.1 ((h v).2 (List.mem_cons_self ..)) with e2 | e2
        · exact e2.symm
        · have h1 := hv.1 u e
          have h2 := hu.1 v e2
          omega
    subst huv
    congr 1
    refine asc_pairs hu.2 hv.2 (fun x => ?_)
    constructor
    · intro hx
      rcases List.mem_cons.1 ((h x).1 (List.mem_cons_of_mem _ hx)) with e | e
      · subst e
        have := hu.1 x hx
        omega
      · exact e
    · intro hx
      rcases List.mem_cons.1 ((h x).2 (List.mem_cons_of_mem _ hx)) with e | e
      · subst e
        have := hv.1 x hx
        omega
      · exact e
theorem AscC.unique {cs l1 l2 : List (Int × Int)} (h1 : AscC cs l1) (h2 : AscC cs l2) : l1 = l2 := asc_pairs h1.1 h2.1 (fun x => by
  obtain ⟨a, b⟩ := x
  rw [h1.2 a b, h2.2 a b])
theorem mgo_more (p : Nat) (L : List InsZ) (limit : Nat) : ∀ (f : Nat) (s : RM) (done l : List (List Int)) (cs : List (Int × Int)), mgo p L limit f s done = .good l cs → done.length < l.length
  | 0, _, _, _, _, h => by simp [mgo] at h
  | f + 1, s, done, l, cs, h => by
    rw [mgo] at h
    split at h
    · cases h
    · split at h
      · cases h
      · split at h
        · cases h
        · split at h
          · injection h with h1 _
            rw [← h1]
            simp
          · have := mgo_more p L limit f _ _ l cs h
            simp at this
            omega
/-- another limit -/
theorem mgo_other (p : Nat) (L : List InsZ) (limit other : Nat) : ∀ (f f2 : Nat) (s : RM) (done l : List (List Int)) (cs : List (Int × Int)), mgo p L limit f s done = .good l cs → done.length ≤ other → done.length + f2 = other + 1 → mgo p L other f2 s done = if other < l.length - 1 then .bad 8 else .good l cs
  | 0, _, _, _, _, _, h, _, _ => by simp [mgo] at h
  | f + 1, 0, _, _, _, _, _, h1, h2 => by omega
  | f + 1, f2 + 1, s, done, l, cs, h, h1, h2 => by
    have hm := mgo_more p L limit _ _ _ _ _ h
    rw [mgo] at h ⊢
    split at h
    · cases h
    · rename_i hpc
      rw [if_neg hpc]
      split at h
      · cases h
      · rename_i hlm
        split at h
        · cases h
        · rename_i her
          split at h
          · rename_i hop
            rw [if_neg (fun hh => hh.2 hop), if_neg her, if_pos hop]
            injection h with e1 e2
            have hl : l.length = done.length + 1 := by rw [← e1]; simp
            rw [if_neg (by omega), e1, e2]
          · rename_i hop
            have hm2 := mgo_more p L limit _ _ _ _ _ h
            simp at hm2
            by_cases hd : done.length = other
            · rw [if_pos ⟨hd, hop⟩, if_pos (by omega)]
            · rw [if_neg (fun hh => hd hh.1), if_neg her, if_neg hop]
              exact mgo_other p L limit other f f2 _ _ l cs h (by simp; omega) (by simp; omega)
theorem mwalk_other {p : Nat} {size : Int} {L : List InsZ} {limit : Nat} (other : Nat) {l : List (List Int)} {cs : List (Int × Int)} (h : mwalk p size L limit = .good l cs) : mwalk p size L other = if other < l.length - 1 then .bad 8 else .good l cs :=
  mgo_other p L limit other _ _ _ _ l cs h (by simp) (by simp)

end Go.Proofs.YtaibngnabhmabajDoor

namespace Go.Proofs.YtaibngnabhmabajDoor
open Go.RowKit Go.Maps

/-- what a machine shows is told, and what was told stays -/
def Okk (p : Nat) (cs0 : List (Int × Int)) (s : RM) : Prop := s.err = 0 → Zer s.cs ∧ (∀ j, 0 ≤ finz s.cs (s.at' j) ∧ cvl s.cs (s.at' j) = s.is' j) ∧ (∀ u, 0 ≤ finz cs0 u → 0 ≤ finz s.cs u ∧ cvl s.cs u = cvl cs0 u) ∧ (∀ u, 0 ≤ finz s.cs u → 0 ≤ u ∧ u < p)
theorem upd_two (f g : Nat → Int) (k : Nat) (x y : Int) (j : Nat) : (updM f k x j = x ∧ updM g k y j = y) ∨ (updM f k x j = f j ∧ updM g k y j = g j) := by
  unfold updM
  split
  · exact .inl ⟨rfl, rfl⟩
  · exact .inr ⟨rfl, rfl⟩
theorem okk_look {p : Nat} {cs0 : List (Int × Int)} {s : RM} (h : Okk p cs0 s) (x : Int) : Okk p cs0 (s.look x).1 := by
  by_cases he : s.err = 0
  · obtain ⟨h1, h2, h3, h4⟩ := h he
    rw [look_eq he]
    by_cases hx : 0 ≤ finz s.cs x
    · rw [if_pos hx]
      intro _
      refine ⟨h1, fun j => ?_, h3, h4⟩
      show 0 ≤ finz s.cs (updM s.at' s.slot x j) ∧ cvl s.cs (updM s.at' s.slot x j) = updM s.is' s.slot (cvl s.cs x) j
      rcases upd_two s.at' s.is' s.slot x (cvl s.cs x) j with ⟨e1, e2⟩ | ⟨e1, e2⟩
      · rw [e1, e2]; exact ⟨hx, rfl⟩
      · rw [e1, e2]; exact h2 j
    · rw [if_neg hx]
      intro e
      exact absurd (show (10 : Int) = 0 from e) (by decide)
  · rw [look_err he]
    exact h
theorem okk_tell {p : Nat} {cs0 : List (Int × Int)} {s : RM} (h : Okk p cs0 s) (x y : Int) (hx : 0 ≤ x ∧ x < p) : Okk p cs0 (s.tell p x y) := by
  by_cases he : s.err = 0
  · obtain ⟨h1, h2, h3, h4⟩ := h he
    rw [tell_eq he]
    by_cases ht : (tel s.cs x (y % (p : Int))).1 = 0
    · rw [if_pos ht]
      intro _
      have hxx : 0 ≤ finz (tel s.cs x (y % (p : Int))).2 x := by rw [(tel_same ht).1]; exact tld_finz.2 (.inr rfl)
      refine ⟨h1.tel ht, fun j => ?_, fun u hu => ?_, fun u hu => ?_⟩
      · show 0 ≤ finz (tel s.cs x (y % (p : Int))).2 (updM s.at' s.slot x j) ∧ cvl (tel s.cs x (y % (p : Int))).2 (updM s.at' s.slot x j) = updM s.is' s.slot (y % (p : Int)) j
        rcases upd_two s.at' s.is' s.slot x (y % (p : Int)) j with ⟨e1, e2⟩ | ⟨e1, e2⟩
        · rw [e1, e2]; exact ⟨hxx, tel_is ht⟩
        · rw [e1, e2]
          have hk := tel_keep ht (h2 j).1
          exact ⟨hk.2, hk.1.trans (h2 j).2⟩
      · have hk := tel_keep ht (h3 u hu).1
        exact ⟨hk.2, hk.1.trans (h3 u hu).2⟩
      · have hu' : 0 ≤ finz (tel s.cs x (y % (p : Int))).2 u := hu
        rw [(tel_same ht).1] at hu'
        rcases tld_finz.1 hu' with h5 | h5
        · exact h4 u h5
        · rw [h5]; exact hx
    · rw [if_neg ht]
      intro e
      exact absurd (show (7 : Int) = 0 from e) (by decide)
  · rw [tell_err he]
    exact h
theorem okk_must {p : Nat} {cs0 : List (Int × Int)} {s : RM} (h : Okk p cs0 s) (b : Bool) : Okk p cs0 (s.must b) := by
  unfold RM.must
  split
  · intro e
    exact absurd (show (7 : Int) = 0 from e) (by decide)
  · exact h
theorem okk_rck {p : Nat} {cs0 : List (Int × Int)} {s : RM} (h : Okk p cs0 s) (op y : Int) : Okk p cs0 (s.rck op y) := by
  unfold RM.rck
  split
  · exact okk_must h _
  · exact h
theorem okk_step {p : Nat} {cs0 : List (Int × Int)} {s : RM} (hp : 3 ≤ p) (h : Okk p cs0 s) (hr : 0 ≤ s.ap ∧ s.ap < p) (op a b c : Int) : Okk p cs0 (s.step p op a b c).1 := by
  have e := fun x => emod_bounds x p hp
  unfold RM.step
  split
  · unfold RM.three
    exact okk_tell (okk_rck (okk_look (okk_look h _) _) _ _) _ _ (e _)
  · split
    · exact okk_tell h _ _ (e _)
    · split
      · exact okk_must (okk_look (okk_look h _) _) _
      · split
        · exact h
        · split
          · exact okk_look h _
          · split
            · exact okk_tell (okk_tell h _ _ hr) _ _ (e _)
            · split
              · exact okk_look (okk_look (okk_look h _) _) _
              · split
                · exact okk_tell h _ _ (e _)
                · split
                  · exact okk_tell (okk_look h _) _ _ (e _)
                  · split
                    · exact okk_look h _
                    · intro e
                      exact absurd (show (7 : Int) = 0 from e) (by decide)
/-- a step's three cells, as they are told -/
def Tld3 (cs : List (Int × Int)) (x : List Int) : Prop := ∀ j, j < 3 → 0 ≤ finz cs (x.getD (4 + j) 0) ∧ cvl cs (x.getD (4 + j) 0) = x.getD (7 + j) 0
theorem now_tld {p : Nat} {cs0 : List (Int × Int)} {s : RM} (h : Okk p cs0 s) (he : s.err = 0) : Tld3 s.cs s.now ∧ s.now.length = 10 := by
  refine ⟨fun j hj => ?_, rfl⟩
  have h2 := (h he).2.1
  have : j = 0 ∨ j = 1 ∨ j = 2 := by omega
  rcases this with rfl | rfl | rfl
  · exact h2 0
  · exact h2 1
  · exact h2 2
theorem okk_fresh {p : Nat} {cs : List (Int × Int)} (hz : Zer cs) (hb : ∀ u, 0 ≤ finz cs u → 0 ≤ u ∧ u < (p : Int)) (n : Rg) : Okk p cs (freshM cs n) := fun _ => ⟨hz, fun _ => hz, fun _ hu => ⟨hu, rfl⟩, hb⟩
theorem mgo_once (p : Nat) (L : List InsZ) (limit : Nat) (hp : 3 ≤ p) : ∀ (f : Nat) (k : Nat) (n : Rg) (cs1 : List (Int × Int)) (done l : List (List Int)) (cs : List (Int × Int)), mgo p L limit f (freshM cs1 n) done = .good l cs → Zer cs1 → (∀ u, 0 ≤ finz cs1 u → 0 ≤ u ∧ u < (p : Int)) → SOk p k 0 (freshM cs1 n) → RgB p n → (∀ x, x ∈ done → Tld3 cs1 x ∧ x.length = 10) →
    Zer cs ∧ (∀ u, 0 ≤ finz cs u → 0 ≤ u ∧ u < (p : Int)) ∧ ∀ x, x ∈ l → Tld3 cs x ∧ x.length = 10
  | 0, _, _, _, _, _, _, h, _, _, _, _, _ => by simp [mgo] at h
  | f + 1, k, n, cs1, done, l, cs, h, hz, hb, hs, hr, hd => by
    rw [mgo] at h
    split at h
    · cases h
    · split at h
      · cases h
      · split at h
        · cases h
        · rename_i her
          generalize hop : (insat L (freshM cs1 n).pc.toNat).op = op at h her
          generalize (insat L (freshM cs1 n).pc.toNat).a = a at h her
          generalize (insat L (freshM cs1 n).pc.toNat).b = b at h her
          generalize (insat L (freshM cs1 n).pc.toNat).c = c at h her
          have he0 : ((freshM cs1 n).step p op a b c).1.err = 0 := Decidable.byContradiction her
          have hk := okk_step hp (okk_fresh hz hb n) hr.2.2.1 op a b c
          have hso := step_ok hp hs hr op a b c
          have hnow := now_tld hk he0
          obtain ⟨g1, g2, g3, g4⟩ := hk he0
          have hall : ∀ x, x ∈ done ++ [((freshM cs1 n).step p op a b c).1.now] → Tld3 ((freshM cs1 n).step p op a b c).1.cs x ∧ x.length = 10 := fun x hx => by
            rcases List.mem_append.1 hx with hx | hx
            · obtain ⟨hd1, hd2⟩ := hd x hx
              exact ⟨fun j hj => ⟨(g3 _ (hd1 j hj).1).1, (g3 _ (hd1 j hj).1).2.trans (hd1 j hj).2⟩, hd2⟩
            · rw [List.mem_singleton] at hx
              rw [hx]
              exact hnow
          split at h
          · injection h with h1 h2
            rw [← h1, ← h2]
            exact ⟨g1, g4, hall⟩
          · exact mgo_once p L limit hp f (k + 2) _ _ _ l cs h g1 g4 ⟨hso.1.1, hso.1.2.1, fun _ => Nat.le_refl _⟩ hso.2 hall
theorem mwalk_once {p : Nat} {size : Int} {L : List InsZ} {limit : Nat} {l : List (List Int)} {cs : List (Int × Int)} (hp : 3 ≤ p) (h : mwalk p size L limit = .good l cs) :
    Zer cs ∧ (∀ u, 0 ≤ finz cs u → 0 ≤ u ∧ u < (p : Int)) ∧ ∀ x, x ∈ l → Tld3 cs x ∧ x.length = 10 := by
  refine mgo_once p L limit hp _ 1 _ _ _ l cs h zer_first (fun u hu => ?_) ⟨fun j hj => ?_, Nat.le_refl _, fun _ => Nat.le_refl _⟩ ⟨⟨Int.le_refl _, by show (0 : Int) < p; omega⟩, ⟨by show (0 : Int) ≤ 1; omega, by show (1 : Int) < p; omega⟩, emod_bounds _ p hp, ⟨Int.le_refl _, by show (0 : Int) < p; omega⟩⟩ (fun x hx => by cases hx)
  · have : u = 0 := by
      rcases finz_cases [(0, 0)] u with e | ⟨i, _, hi, he⟩
      · omega
      · have : i = 0 := by simpa using hi
        subst this
        simpa [cat] using he.symm
    subst this
    exact ⟨Int.le_refl _, by omega⟩
  · have : j = 0 := by simpa [freshM] using hj
    subst this
    show 0 ≤ (0 : Int) ∧ (0 : Int) < p
    omega

end Go.Proofs.YtaibngnabhmabajDoor

namespace Go.Proofs.YtaibngnabhmabajDoor
open Go.RowKit Go.Maps

/-- the least of the first i cells above low -/
def Bst (cs : List (Int × Int)) (low : Int) (i : Nat) (b : Int) : Prop := (b = -1 ∧ ∀ j, j < i → (cat cs j).1 ≤ low) ∨ ∃ m : Nat, b = m ∧ m < i ∧ low < (cat cs m).1 ∧ (∀ j, j < i → low < (cat cs j).1 → (cat cs m).1 ≤ (cat cs j).1) ∧ (∀ j, j < m → (cat cs j).1 ≠ (cat cs m).1)
theorem bst_first (cs : List (Int × Int)) (low : Int) : Bst cs low 0 (-1) := .inl ⟨rfl, fun _ h => absurd h (Nat.not_lt_zero _)⟩
theorem bst_skip {cs : List (Int × Int)} {low : Int} {i : Nat} {b : Int} (h : Bst cs low i b) (hn : (cat cs i).1 ≤ low ∨ ∃ m : Nat, b = m ∧ (cat cs m).1 ≤ (cat cs i).1) : Bst cs low (i + 1) b := by
  rcases h with ⟨h1, h2⟩ | ⟨m, h1, h2, h3, h4, h5⟩
  · refine .inl ⟨h1, fun j hj => ?_⟩
    rcases hn with hn | ⟨m, hm, _⟩
    · by_cases e : j = i
      · rw [e]; exact hn
      · exact h2 j (by omega)
    · omega
  · refine .inr ⟨m, h1, by omega, h3, fun j hj hl => ?_, h5⟩
    by_cases e : j = i
    · subst e
      rcases hn with hn | ⟨m', hm, hn⟩
      · omega
      · have : m' = m := by omega
        subst this
        exact hn
    · exact h4 j (by omega) hl
theorem bst_take {cs : List (Int × Int)} {low : Int} {i : Nat} {b : Int} (h : Bst cs low i b) (hl : low < (cat cs i).1) (hn : b < 0 ∨ ∃ m : Nat, b = m ∧ (cat cs i).1 < (cat cs m).1) : Bst cs low (i + 1) i := by
  refine .inr ⟨i, rfl, by omega, hl, ?_, ?_⟩
  · intro j hj hlj
    by_cases e : j = i
    · rw [e]; exact Int.le_refl _
    · rcases h with ⟨_, h2⟩ | ⟨m, h1, h2, h3, h4, _⟩
      · have := h2 j (by omega); omega
      · have := h4 j (by omega) hlj
        rcases hn with hn | ⟨m', hm, hn⟩
        · omega
        · have : m' = m := by omega
          subst this
          omega
  · intro j hj e
    rcases h with ⟨_, h2⟩ | ⟨m, h1, h2, h3, h4, _⟩
    · have := h2 j hj; omega
    · have := h4 j hj (by omega)
      rcases hn with hn | ⟨m', hm, hn⟩
      · omega
      · have : m' = m := by omega
        subst this
        omega
/-- what is listed so far -/
def Pre6 (cs : List (Int × Int)) (low : Int) (pre : List (Int × Int)) : Prop := 0 ≤ low ∧ pre.Pairwise (fun a b => a.1 < b.1) ∧ ∀ x y, (x, y) ∈ pre ↔ (0 < x ∧ x ≤ low ∧ 0 ≤ finz cs x ∧ cvl cs x = y)
theorem pre6_first (cs : List (Int × Int)) : Pre6 cs 0 [] := ⟨Int.le_refl _, List.Pairwise.nil, fun x y => ⟨fun h => (by cases h), fun h => by omega⟩⟩
theorem finz_at {cs : List (Int × Int)} {m : Nat} (hm : m < cs.length) (hn : ∀ j, j < m → (cat cs j).1 ≠ (cat cs m).1) : finz cs (cat cs m).1 = m ∧ cvl cs (cat cs m).1 = (cat cs m).2 := by
  have h := finz_hit hm rfl hn
  refine ⟨h, ?_⟩
  unfold cvl
  rw [h, if_pos (by omega), Int.toNat_natCast]
theorem pre6_more {cs : List (Int × Int)} {low : Int} {pre : List (Int × Int)} {m : Nat} (h : Pre6 cs low pre) (hm : m < cs.length) (hl : low < (cat cs m).1) (hle : ∀ j, j < cs.length → low < (cat cs j).1 → (cat cs m).1 ≤ (cat cs j).1) (hn : ∀ j, j < m → (cat cs j).1 ≠ (cat cs m).1) : Pre6 cs (cat cs m).1 (pre ++ [cat cs m]) := by
  obtain ⟨h1, h2, h3⟩ := h
  obtain ⟨f1, f2⟩ := finz_at hm hn
  refine ⟨by omega, ?_, fun x y => ?_⟩
  · rw [List.pairwise_append]
    refine ⟨h2, List.pairwise_singleton _ _, fun a ha b hb => ?_⟩
    rw [List.mem_singleton] at hb
    subst hb
    have := (h3 a.1 a.2).1 ha
    omega
  · rw [List.mem_append, List.mem_singleton, h3 x y]
    constructor
    · rintro (⟨e1, e2, e3⟩ | e)
      · exact ⟨e1, by omega, e3⟩
      · have ex : x = (cat cs m).1 := congrArg Prod.fst e
        have ey : y = (cat cs m).2 := congrArg Prod.snd e
        subst ex ey
        exact ⟨by omega, Int.le_refl _, by omega, f2⟩
    · rintro ⟨e1, e2, e3, e4⟩
      by_cases hx : x ≤ low
      · exact .inl ⟨e1, hx, e3, e4⟩
      · right
        rcases finz_cases cs x with e5 | ⟨i, e5, e6, e7⟩
        · omega
        · have := hle i e6 (by omega)
          have hxe : x = (cat cs m).1 := by omega
          have hye : y = (cat cs m).2 := by rw [← e4, hxe]; exact f2
          rw [hxe, hye]
theorem pre6_end {p : Nat} {cs : List (Int × Int)} {low : Int} {pre : List (Int × Int)} (h : Pre6 cs low pre) (hb : ∀ u, 0 ≤ finz cs u → 0 ≤ u ∧ u < (p : Int)) (hp : p ≤ 2147483647) (hle : ∀ j, j < cs.length → (cat cs j).1 ≤ low) : AscC cs pre := by
  refine ⟨h.2.1, fun x y => ?_⟩
  rw [h.2.2 x y]
  constructor
  · rintro ⟨e1, e2, e3, e4⟩
    have := hb x e3
    exact ⟨by omega, ⟨by omega, by omega⟩, e3, e4⟩
  · rintro ⟨e1, e2, e3, e4⟩
    have := hb x e3
    rcases finz_cases cs x with e5 | ⟨i, e5, e6, e7⟩
    · omega
    · have := hle i e6
      exact ⟨by omega, by omega, e3, e4⟩
theorem finz_key {cs : List (Int × Int)} {j : Nat} (hj : j < cs.length) : 0 ≤ finz cs (cat cs j).1 := by
  rcases Int.lt_or_le (finz cs (cat cs j).1) 0 with h | h
  · exfalso
    have hm : finz cs (cat cs j).1 ≠ -1 := by
      intro e
      unfold finz at e
      split at e
      · omega
      · rename_i hnone
        rw [List.findIdx?_eq_none_iff] at hnone
        have h1 := hnone cs[j] (List.getElem_mem hj)
        simp [cat, hj] at h1
    rcases finz_cases cs (cat cs j).1 with e | ⟨i, e, _⟩
    · exact hm e
    · omega
  · exact h

end Go.Proofs.YtaibngnabhmabajDoor

namespace Go.Proofs.YtaibngnabhmabajDoor
open Go.RowKit Go.Maps

theorem celv_int : ∀ (l : List (Int × Int)) (m : Nat), m < (celv l).length → ∃ x, (celv l)[m]? = some (.int .i64 x) := fun l m hm => by
  rw [celv_len] at hm
  obtain ⟨h1, h2⟩ := celv_at l (m / 2) (by omega)
  have : m = m / 2 * 2 ∨ m = m / 2 * 2 + 1 := by omega
  rcases this with e | e
  · rw [e]; exact ⟨_, h1⟩
  · rw [e]; exact ⟨_, h2⟩
end Go.Proofs.YtaibngnabhmabajDoor

namespace Go.Proofs.YtaibngnabhmabajDoor
open Go.RowKit Go.Maps

theorem prime97M : Num.Prime 97 := by
  refine ⟨by decide, fun d hd => ?_⟩
  have hle : d ≤ 97 := Nat.le_of_dvd (by decide) hd
  have key : ∀ e, e ≤ 97 → 97 % e = 0 → e = 1 ∨ e = 97 := by decide
  exact key d hle (Nat.mod_eq_zero_of_dvd hd)
/-- chapter 10's example -/
def exL : List InsZ := [⟨5, 0, 5, 0⟩, ⟨5, 1, -1, 0⟩, ⟨3, 0, 1, 2⟩, ⟨0, 2, 0, 0⟩]
def exC : List (Int × Int) := [(0, 0), (1, 5), (2, 96), (3, 92)]
theorem ex_walk : ∃ l, mwalk 97 3 exL 3 = .good l exC ∧ l.length = 4 ∧ outv l = 92 := ⟨_, rfl, rfl, rfl⟩
theorem ex_cells {l : List (Int × Int)} (h : AscC exC l) : l.length = 3 := by
  have hx : AscC exC [(1, 5), (2, 96), (3, 92)] := by
    refine ⟨by decide, fun x y => ?_⟩
    by_cases h0 : x = 0
    · subst h0; simp
    · by_cases h1 : x = 1
      · subst h1
        simp [cvl, finz, exC, cat, I64, List.findIdx?_cons]
        omega
      · by_cases h2 : x = 2
        · subst h2
          simp [cvl, finz, exC, cat, I64, List.findIdx?_cons]
          omega
        · by_cases h3 : x = 3
          · subst h3
            simp [cvl, finz, exC, cat, I64, List.findIdx?_cons]
            omega
          · have hm : finz exC x = -1 := finz_miss (fun j hj => by
              have : j = 0 ∨ j = 1 ∨ j = 2 ∨ j = 3 := by simp [exC] at hj; omega
              rcases this with rfl | rfl | rfl | rfl <;> simp [cat, exC] <;> omega)
            rw [hm]
            simp [h1, h2, h3]
  rw [h.unique hx]
  rfl
theorem ex_bounds : InsB exL := fun k hk => by
  have : k = 0 ∨ k = 1 ∨ k = 2 ∨ k = 3 := by simp [exL] at hk; omega
  rcases this with rfl | rfl | rfl | rfl <;> decide

theorem fz6_lim {p size : Int} {n : Nat} {l1 l2 : Int} (h : fz6 p size n l1 = 0) : fz6 p size n l2 = if l2 < 0 ∨ 16384 < l2 then 3 else 0 := by
  unfold fz6 at h ⊢
  split at h
  · omega
  · rename_i h1
    rw [if_neg h1]

end Go.Proofs.YtaibngnabhmabajDoor
