/- What package chain must answer; attestlaw3.done, of that. -/
import Derived.Test.YtgjkakfkefpgbafDoorChnB
import Derived.Test.YtgjkakfkefpgbafDoorPls
import Derived.Test.YtgjkakfkefpgbafDoorDoms
import Derived.Test.YtgjkakfkefpgbafDoorTres
namespace Go.Proofs.YtgjkakfkefpgbafDoor
open Go.RowKit

/-- the digest behind so many numbers drawn -/
def drw (q n : Nat) : Nat → List Int → List Int
  | 0, D => D
  | k + 1, D => digl q n (4 :: drw q n k D)
/-- the numbers drawn -/
def drs (q n k : Nat) (D : List Int) : List Int := ls (fun i => zat (drw q n (i + 1) D) 0) k
/-- a digest -/
def Dig (D : List Int) : Prop := D.length = 4 ∧ Fits D
theorem dig_digl {q : Nat} (h3 : 3 ≤ q) (h4 : q ≤ 2147483647) (n : Nat) (l : List Int) : Dig (digl q n l) := ⟨digl_len _ _ _, digl_fits h3 h4 _ _⟩
theorem dig_drw {q : Nat} (h3 : 3 ≤ q) (h4 : q ≤ 2147483647) (n : Nat) {D : List Int} (h : Dig D) : ∀ k, Dig (drw q n k D)
  | 0 => h
  | _ + 1 => dig_digl h3 h4 _ _

/-- what package chain must answer -/
structure ChainAs (N0 q n : Nat) (PC : World → Nat → List Int → Prop) : Prop where
  typ : ∀ {w : World} {c : Nat} {D : List Int}, PC w c D → ∃ cs f, w.heap[c]? = some (.cells cs 53 f)
  ge : ∀ {w : World} {c : Nat} {D : List Int}, PC w c D → N0 ≤ c
  keep : ∀ {w w' : World} {c : Nat} {D : List Int}, PC w c D → w.heap.size ≤ w'.heap.size → w'.heap[c]? = w.heap[c]? → (∀ b, b < N0 → w'.heap[b]? = w.heap[b]?) → PC w' c D
  take : ∀ (c cap : Nat) (a : Option Addr) (l D : List Int) (W : World), PC W c D → Dig D → l.length ≤ 17592186043904 → Fits l → Lst W.heap.size W a cap l →
    Calls Tryd.prog 17 #[.pointer (some ⟨c, 0, none⟩), .slice a l.length cap] W fun e w' => e = .returned (.tuple #[]) ∧ PC w' c (digl q n (3 :: (D ++ l))) ∧ W.grownBy w' (some c)
  draw : ∀ (c : Nat) (D : List Int) (W : World), PC W c D → Dig D →
    Calls Tryd.prog 18 #[.pointer (some ⟨c, 0, none⟩)] W fun e w' => e = .returned (.int .i64 (zat (digl q n (4 :: D)) 0)) ∧ PC w' c (digl q n (4 :: D)) ∧ W.grownBy w' (some c)
  draws : ∀ (c N : Nat) (D : List Int) (W : World), PC W c D → Dig D → 1 ≤ N → N ≤ 65536 →
    Calls Tryd.prog 20 #[.pointer (some ⟨c, 0, none⟩), .int .i64 (N : Int)] W fun e w' => ∃ a cp, e = .returned (.slice a N cp) ∧ NumL w' a cp (drs q n N D) ∧ PC w' c (drw q n N D) ∧ W.grownBy w' (some c)
  drawsNo : ∀ (c : Nat) (N : Int) (D : List Int) (W : World), PC W c D → N < 1 ∨ 65536 < N →
    Calls Tryd.prog 20 #[.pointer (some ⟨c, 0, none⟩), .int .i64 N] W fun e w' => ∃ a cp, e = .returned (.slice a 0 cp) ∧ Below W.heap.size W w'
  place : ∀ (c : Nat) (N : Int) (D : List Int) (W : World), PC W c D → Dig D → 1 ≤ N → N ≤ 65536 →
    Calls Tryd.prog 21 #[.pointer (some ⟨c, 0, none⟩), .int .i64 N] W fun e w' => e = .returned (.int .i64 ((zat (digl q n (4 :: D)) 0 * q + zat (digl q n (4 :: D)) 1) % N)) ∧ PC w' c (digl q n (4 :: D)) ∧ W.grownBy w' (some c)
  placeNo : ∀ (c : Nat) (N : Int) (D : List Int) (W : World), PC W c D → N < 1 ∨ 65536 < N →
    Calls Tryd.prog 21 #[.pointer (some ⟨c, 0, none⟩), .int .i64 N] W fun e w' => e = .returned (.int .i64 0) ∧ Below W.heap.size W w'
  digest : ∀ (c : Nat) (D : List Int) (W : World), PC W c D → Dig D →
    Calls Tryd.prog 9 #[.pointer (some ⟨c, 0, none⟩)] W fun e w' => ∃ g N, e = .returned (.slice (some ⟨g, 0, none⟩) 4 N) ∧ W.heap.size ≤ g ∧ RowB w'.heap.size w' (some ⟨g, 0, none⟩) D ∧ Below W.heap.size W w' ∧
      ∀ W' : World, W'.heap[g]? = w'.heap[g]? → Calls Tryd.prog 11 #[.slice (some ⟨g, 0, none⟩) 4 N] W' fun e w'' => e = .returned (.tuple #[]) ∧ W'.grownBy w'' (some g)
  fork : ∀ (c : Nat) (D : List Int) (W : World), PC W c D → Dig D →
    Calls Tryd.prog 7 #[.pointer (some ⟨c, 0, none⟩)] W fun e w' => ∃ c', e = .returned (.pointer (some ⟨c', 0, none⟩)) ∧ W.heap.size ≤ c' ∧ PC w' c' D ∧ Below W.heap.size W w'

theorem ChainAs.lt {N0 q n : Nat} {PC : World → Nat → List Int → Prop} (H : ChainAs N0 q n PC) {w : World} {c : Nat} {D : List Int} (h : PC w c D) : c < w.heap.size := by
  obtain ⟨_, _, e⟩ := H.typ h
  exact (Array.getElem?_eq_some_iff.1 e).1
theorem ChainAs.below {N0 q n : Nat} {PC : World → Nat → List Int → Prop} (H : ChainAs N0 q n PC) {w w' : World} {c : Nat} {D : List Int} (h : PC w c D) (e : Below w.heap.size w w') : PC w' c D :=
  H.keep h e.size (e.block c (H.lt h)) (fun _ hb => e.block _ (by have := H.ge h; have := H.lt h; omega))
/-- another block's turn, of one that came later, leaves it -/
theorem ChainAs.other {N0 q n : Nat} {PC : World → Nat → List Int → Prop} (H : ChainAs N0 q n PC) {w w' : World} {c s : Nat} {D : List Int} (h : PC w c D) (e : w.grownBy w' (some s)) (hne : c ≠ s) (hs : N0 ≤ s) : PC w' c D :=
  H.keep h e.size (gb_blk e (H.lt h) hne) (fun _ hb => gb_blk e (by have := H.ge h; have := H.lt h; omega) (by omega))
/-- blocks up to a bound stay -/
theorem ChainAs.upto {N0 q n : Nat} {PC : World → Nat → List Int → Prop} (H : ChainAs N0 q n PC) {w w' : World} {c m : Nat} {D : List Int} (h : PC w c D) (e : Below m w w') (hc : c < m) : PC w' c D :=
  H.keep h e.size (e.block c hc) (fun _ hb => e.block _ (by have := H.ge h; omega))
theorem ChainAs.notInt {N0 q n : Nat} {PC : World → Nat → List Int → Prop} (H : ChainAs N0 q n PC) {w : World} {c : Nat} {D : List Int} (h : PC w c D) : ∀ (cs : Array Value) (f : Nat × Nat), w.heap[c]? ≠ some (.cells cs 3 f) := fun cs f e => by
  obtain ⟨_, _, hb⟩ := H.typ h
  rw [hb] at e
  simp at e
theorem ChainAs.ne {N0 q n : Nat} {PC : World → Nat → List Int → Prop} (H : ChainAs N0 q n PC) {w : World} {c r : Nat} {D E : List Int} (h : PC w c D) (k : RCh q w r E) : c ≠ r := fun he => by
  obtain ⟨_, _, hb⟩ := H.typ h
  obtain ⟨_, _, hr, _⟩ := k
  rw [he, hr] at hb
  simp at hb
theorem NumL.other {w w' : World} {a : Option Addr} {c s : Nat} {l : List Int} (h : NumL w a c l) (e : w.grownBy w' (some s)) (hs : ∀ (cs : Array Value) (f : Nat × Nat), w.heap[s]? ≠ some (.cells cs 3 f)) : NumL w' a c l :=
  h.blocks e.size (fun g cs f hg => gb_blk e (Array.getElem?_eq_some_iff.1 hg).1 (fun he => hs cs f (by rw [← he]; exact hg)))
theorem numL_of_owns {w : World} {base : Nat} {v : Value} {zs : List Int} (h : w.ownsRow base 3 1 v zs.length (zs.map (Value.int .i64))) : ∃ a cap, v = .slice a zs.length cap ∧ NumL w a cap zs := by
  obtain ⟨a, cap, rfl, hl⟩ := lst_of_owns h
  refine ⟨a, cap, rfl, hl, fun h0 => ?_⟩
  rcases h.2 with ⟨_, h3⟩ | ⟨g, cap', cur, e, hg, hb, _⟩
  · omega
  · injection e with e1
    exact ⟨g, 0, cur, _, e1, hb⟩
theorem pair_b {g h : Nat} {w w' : World} (e : Below w.heap.size w w') : Pair g h w w' := ⟨e.os, e.tape, e.output, e.size, fun k hk _ _ => e.block k hk⟩
theorem pair_1 {g h : Nat} {w w' : World} (e : w.grownBy w' (some g)) : Pair g h w w' := ⟨e.os, e.tape, e.output, e.size, fun _ hk h1 _ => gb_blk e hk h1⟩
theorem pair_2 {g h : Nat} {w w' : World} (e : w.grownBy w' (some h)) : Pair g h w w' := ⟨e.os, e.tape, e.output, e.size, fun _ hk _ h2 => gb_blk e hk h2⟩

theorem trio_c0 {W : World} {O : Nat} {a b c : Value} {t : TypeId} (h : W.heap[O]? = some (.cells #[a, b, c] t (0, 0))) : W.cell? ⟨O, 0, none⟩ = some a := by simp [World.cell?, h]
theorem trio_c1 {W : World} {O : Nat} {a b c : Value} {t : TypeId} (h : W.heap[O]? = some (.cells #[a, b, c] t (0, 0))) : W.cell? ⟨O, 1, none⟩ = some b := by simp [World.cell?, h]
theorem trio_c2 {W : World} {O : Nat} {a b c : Value} {t : TypeId} (h : W.heap[O]? = some (.cells #[a, b, c] t (0, 0))) : W.cell? ⟨O, 2, none⟩ = some c := by simp [World.cell?, h]
/-- what a step on both sides leaves -/
def DoneR (q : Nat) (PC : World → Nat → List Int → Prop) (c r : Nat) (w w' : World) : Prop := ∃ D, Dig D ∧ PC w' c D ∧ RCh q w' r D ∧ Pair c r w w'

/-- append([]int{}, l...) -/
theorem wpList_copyN {ops : Array Oper} {rest : List Oper} {o : Oper} {act : Act} {Q : Exit → Act → World → Prop} (w1 : World) (n0 g : Nat) (hgs : w1.heap.size = g) (hgd : o.guard = none) (s x : Operand)
    (ho : o.op = .call { callee := .builtin .append, args := #[s, x], argTypes := #[22, 22] })
    (hs : act.eval s = .slice (some ⟨g, 0, none⟩) 0 0) (av : Option Addr) (cap : Nat) (zs : List Int) (hx : act.eval x = .slice av zs.length cap)
    (hlen : zs.length ≤ 17592186044416) (hn : n0 ≤ w1.heap.size) (hl : Lst n0 w1 av cap zs)
    (h : ∀ a2 c2 w2, NumL w2 a2 c2 zs → Below w1.heap.size w1 w2 → wpList Tryd.prog ops Q rest (act.put o.dst (.slice a2 zs.length c2)) w2) :
    wpList Tryd.prog ops Q (o :: rest) act (w1.alloc (.cells #[] 3)) := by
  subst hgs
  have hb0 : Below w1.heap.size w1 (w1.alloc (.cells #[] 3)) := (Below.refl _ _).alloc (Nat.le_refl _) _
  have hown : (w1.alloc (.cells #[] 3)).ownsRow w1.heap.size 3 1 (.slice (some ⟨w1.heap.size, 0, none⟩) 0 0) ([] : List Int).length (([] : List Int).map (Value.int .i64)) := World.ownsRow_made (size := 1) w1 #[] 0 (Nat.le_refl _) (by unfold maxLen; omega) (by simp)
  refine wpList_appendL (w1.alloc (.cells #[] 3)) w1.heap.size n0 hgd s x ho _ hs [] zs hown av cap hx (by simpa using hlen) (by simp) (hl.below (hb0.mono hn)) ?_
  intro v' w2 hown2 hb2
  rw [List.nil_append] at hown2
  obtain ⟨a2, c2, rfl, hnl⟩ := numL_of_owns hown2
  exact h a2 c2 w2 hnl (hb0.trans hb2)

set_option maxRecDepth 100000 in
set_option maxHeartbeats 1000000 in
theorem done_take {N0 q n : Nat} {PC : World → Nat → List Int → Prop} (H : ChainAs N0 q n PC) (h5 : 5 ≤ q) (h4 : q ≤ 2147483647) (hpn : Spo.PowIs q n) (n0 c r co : Nat) (num : Int) (ao : Option Addr) (l D : List Int) (w : World) (hN : N0 ≤ r) (hP : PC w c D) (hR : RCh q w r D) (hD : Dig D) (hll : l.length ≤ 17592186043904) (hfl : Fits l) (hc0 : n0 ≤ c) (hr0 : n0 ≤ r) (hl : Lst n0 w ao co l) :
    Calls Tryd.prog 8 #[.pointer (some ⟨c, 0, none⟩), .pointer (some ⟨r, 0, none⟩), .agg #[.int .i64 1, .int .i64 num, .slice ao l.length co]] w fun e w' => e = .returned (.bool true) ∧ DoneR q PC c r w w' := by
  have HH := hid H
  have HPN := hid hpn
  have HD := hid hD
  have HFL := hid hfl
  have hcs := H.lt hP
  have hrs := hR.lt
  have hn0 : n0 ≤ w.heap.size := by omega
  have HNE := hid (H.ne hP hR)
  have HB0 : Hid (Below w.heap.size w (w.alloc (.cells #[.int .i64 1, .int .i64 num, .slice ao l.length co] 34))) := (Below.refl _ _).alloc (Nat.le_refl _) _
  have HO0 := hid (tri_arr (tri_new w 34 (.int .i64 1) (.int .i64 num) (.slice ao l.length co)))
  have d0 := trio_c0 HO0.out
  have d2 := trio_c2 HO0.out
  have HP0 := hid (H.below hP HB0.out)
  have HR0 := hid (hR.below HB0.out)
  have HL0 := hid (hl.below (HB0.out.mono hn0))
  obtain ⟨O, hO⟩ : ∃ O, O = w.heap.size := ⟨_, rfl⟩
  have HOc : Hid (O ≠ c ∧ O ≠ r) := ⟨by omega, by omega⟩
  have HP1 := hid (pair_b (g := c) (h := r) HB0.out)
  clear H hpn hD hfl hP hR hl
  obtain ⟨W0, hW0⟩ : ∃ W0, W0 = w.alloc (.cells #[.int .i64 1, .int .i64 num, .slice ao l.length co] 34) := ⟨_, rfl⟩
  have hsz0 : n0 ≤ W0.heap.size := by rw [hW0]; have := HB0.out.size; omega
  have HBC : Hid (∀ W, Below W0.heap.size W0 W → PC W c D ∧ RCh q W r D ∧ Lst n0 W ao co l ∧ W.heap[O]? = some (.cells #[.int .i64 1, .int .i64 num, .slice ao l.length co] 34 (0, 0)) ∧ Pair c r w W) := fun W h => by
    rw [hW0] at h
    rw [hO]
    exact ⟨HH.out.below HP0.out h, HR0.out.below h, HL0.out.below (h.mono (by rw [← hW0]; exact hsz0)), (h.block _ (Array.getElem?_eq_some_iff.1 HO0.out).1).trans HO0.out, HP1.out.trans (pair_b h)⟩
  have HL0' : Hid (Lst n0 W0 ao co l) := (HBC.out W0 (Below.refl _ _)).2.2.1
  go_enter Tryd.func8, Tryd.ntmps8
  go_wp2_with (at_builtin; refine wpList_copyN (w.alloc (.cells #[.int .i64 1, .int .i64 num, .slice ao l.length co] 34)) n0 (w.heap.size + 1) (by simp) rfl _ _ rfl rfl ao co l rfl (by omega) (by rw [← hW0]; exact hsz0) HL0.out ?_)
  intro a2 c2 w2 hnl2 hb2
  rw [← hW0] at hb2
  have hs1 : W0.heap.size = w.heap.size + 1 := by rw [hW0]; simp
  have h2 := HBC.out w2 (by rw [hs1]; exact hb2)
  have HNL := hid hnl2
  have HTK := hid (HH.out.take c c2 a2 l D w2 h2.1 HD.out hll HFL.out hnl2.1)
  have H2 := hid h2
  have HS2 : Hid (n0 ≤ w2.heap.size ∧ r < w2.heap.size ∧ O < w2.heap.size) := by have := hb2.size; unfold Hid; omega
  clear hnl2 hb2 h2 d0 d2 HBC HL0' HP0 HR0 HL0 HB0 HO0 HP1 hs1 hsz0 hW0
  rw [← hO]
  clear hO
  go_wp2_with fail
  refine HTK.out.mono ?_
  rintro e w3 ⟨rfl, hP3, hg3⟩
  have HP3 := hid hP3
  have HR3 := hid (H2.out.2.1.other hg3 (fun e => HNE.out e.symm) (HH.out.notInt H2.out.1))
  have HO3 := hid ((gb_blk hg3 HS2.out.2.2 HOc.out.1).trans H2.out.2.2.2.1)
  have HL3 := hid (H2.out.2.2.1.below (gb_to hg3 hc0 HS2.out.1))
  have HN3 := hid (HNL.out.other hg3 (HH.out.notInt H2.out.1))
  have HA3 := hid (H2.out.2.2.2.2.trans (pair_1 hg3))
  have hs3 := hg3.size
  have HS3 : Hid (n0 ≤ w3.heap.size ∧ r < w3.heap.size ∧ O < w3.heap.size) := by have := HS2.out; unfold Hid; omega
  have d2 := trio_c2 HO3.out
  have HST := hid (rstep_any q n r co 3 ao l D w3 h5 h4 HPN.out (by omega) (by rw [HD.out.1]; omega) HD.out.2 HFL.out HR3.out (HL3.out.mono HS3.out.1))
  clear hP3 hg3 H2 HNL HTK HS2 hs3
  go_wp2_with fail
  refine HST.out.mono ?_
  rintro e w4 ⟨rfl, hR4, hg4⟩
  have HP4 := hid (HH.out.other HP3.out hg4 HNE.out hN)
  have HR4 := hid hR4
  have HO4 := hid ((gb_blk hg4 HS3.out.2.2 HOc.out.2).trans HO3.out)
  have HL4 := hid (HL3.out.below (gb_to hg4 hr0 HS3.out.1))
  have HN4 := hid (HN3.out.other hg4 HR3.out.not)
  have HA4 := hid (HA3.out.trans (pair_2 hg4))
  have d2' := trio_c2 HO4.out
  have HIN := hid (ints_same _ _ l a2 ao c2 co w4 HN4.out.1.row HL4.out.row (by omega))
  clear hR4 hg4 HST d2 HP3 HR3 HO3 HL3 HN3 HA3 HS3
  go_wp2_with fail
  refine HIN.out.mono ?_
  rintro e w5 ⟨rfl, nd, rfl⟩
  clear HIN
  go_wp2_with fail
  go_ret
  have hbd := below_drewN (Below.refl w4.heap.size w4) nd
  exact ⟨rfl, _, dig_digl (by omega) h4 n _, HH.out.below HP4.out hbd, HR4.out.below hbd, HA4.out.trans (pair_b hbd)⟩

/-- what stands as done begins -/
structure DnB (q : Nat) (PC : World → Nat → List Int → Prop) (c r O : Nat) (k : Int) (num : Int) (v : Value) (D : List Int) (w W : World) : Prop where
  pc : PC W c D
  rc : RCh q W r D
  op : W.heap[O]? = some (.cells #[.int .i64 k, .int .i64 num, v] 34 (0, 0))
  pair : Pair c r w W
  ne : c ≠ r ∧ O ≠ c ∧ O ≠ r
theorem DnB.lt {q : Nat} {PC : World → Nat → List Int → Prop} {c r O : Nat} {k num : Int} {v : Value} {D : List Int} {w W : World} (h : DnB q PC c r O k num v D w W) : O < W.heap.size := (Array.getElem?_eq_some_iff.1 h.op).1
theorem dnb_start {N0 q n : Nat} {PC : World → Nat → List Int → Prop} (H : ChainAs N0 q n PC) {c r : Nat} (k num : Int) (v : Value) {D : List Int} {w : World} (hP : PC w c D) (hR : RCh q w r D) : DnB q PC c r w.heap.size k num v D w (w.alloc (.cells #[.int .i64 k, .int .i64 num, v] 34)) := by
  have hb : Below w.heap.size w (w.alloc (.cells #[.int .i64 k, .int .i64 num, v] 34)) := (Below.refl _ _).alloc (Nat.le_refl _) _
  have h1 := H.lt hP
  have h2 := hR.lt
  exact ⟨H.below hP hb, hR.below hb, tri_arr (tri_new w 34 (.int .i64 k) (.int .i64 num) v), pair_b hb, H.ne hP hR, by omega, by omega⟩
/-- the program's step -/
theorem DnB.prog {N0 q n : Nat} {PC : World → Nat → List Int → Prop} (H : ChainAs N0 q n PC) {c r O : Nat} {k num : Int} {v : Value} {D E : List Int} {w W W' : World} (h : DnB q PC c r O k num v D w W) (hP : PC W' c E) (hg : W.grownBy W' (some c)) :
    PC W' c E ∧ RCh q W' r D ∧ W'.heap[O]? = some (.cells #[.int .i64 k, .int .i64 num, v] 34 (0, 0)) ∧ Pair c r w W' :=
  ⟨hP, h.rc.other hg (fun e => h.ne.1 e.symm) (H.notInt h.pc), (gb_blk hg h.lt h.ne.2.1).trans h.op, h.pair.trans (pair_1 hg)⟩
theorem DnB.keep {N0 q n : Nat} {PC : World → Nat → List Int → Prop} (H : ChainAs N0 q n PC) {c r O : Nat} {k num : Int} {v : Value} {D : List Int} {w W W' : World} (h : DnB q PC c r O k num v D w W) (hb : Below W.heap.size W W') : DnB q PC c r O k num v D w W' :=
  ⟨H.below h.pc hb, h.rc.below hb, (hb.block _ h.lt).trans h.op, h.pair.trans (pair_b hb), h.ne⟩

set_option maxRecDepth 100000 in
set_option maxHeartbeats 1000000 in
theorem done_draw {N0 q n : Nat} {PC : World → Nat → List Int → Prop} (H : ChainAs N0 q n PC) (h5 : 5 ≤ q) (h4 : q ≤ 2147483647) (hpn : Spo.PowIs q n) (c r : Nat) (num : Int) (v : Value) (D : List Int) (w : World) (hN : N0 ≤ r) (hP : PC w c D) (hR : RCh q w r D) (hD : Dig D) :
    Calls Tryd.prog 8 #[.pointer (some ⟨c, 0, none⟩), .pointer (some ⟨r, 0, none⟩), .agg #[.int .i64 2, .int .i64 num, v]] w fun e w' => e = .returned (.bool true) ∧ DoneR q PC c r w w' := by
  have HH := hid H
  have HPN := hid hpn
  have HD := hid hD
  have HB := hid (dnb_start H 2 num v hP hR)
  obtain ⟨W0, hW0⟩ : ∃ W0, W0 = w.alloc (.cells #[.int .i64 2, .int .i64 num, v] 34) := ⟨_, rfl⟩
  rw [← hW0] at HB
  have d0 := trio_c0 HB.out.op
  have HDR := hid (H.draw c D W0 HB.out.pc hD)
  clear H hpn hD hP hR
  go_enter Tryd.func8, Tryd.ntmps8
  rw [hW0] at d0
  go_wp2_with fail
  rw [← hW0]
  clear hW0 d0
  refine HDR.out.mono ?_
  rintro e w1 ⟨rfl, hP1, hg1⟩
  have H1 := hid (HB.out.prog HH.out hP1 hg1)
  have HNE := hid HB.out.ne.1
  clear hP1 hg1 HDR HB
  obtain ⟨z, hz⟩ : ∃ z, z = zat (digl q n (4 :: D)) 0 := ⟨_, rfl⟩
  have HRD := hid (rdraw_any q n r D w1 h5 h4 HPN.out (by rw [HD.out.1]; omega) HD.out.2 H1.out.2.1)
  rw [← hz] at HRD ⊢
  have hzz : (z == z) = true := by simp
  clear hz
  go_wp2_with fail
  refine HRD.out.mono ?_
  rintro e w2 ⟨rfl, hR2, hg2⟩
  have HE : Hid (DoneR q PC c r w w2) := ⟨_, dig_digl (by omega) h4 n _, HH.out.other H1.out.1 hg2 HNE.out hN, hR2, H1.out.2.2.2.trans (pair_2 hg2)⟩
  clear hR2 hg2 HRD H1
  go_wp2_with fail
  go_ret
  exact ⟨rfl, HE.out⟩

set_option maxRecDepth 100000 in
set_option maxHeartbeats 1000000 in
theorem done_place {N0 q n : Nat} {PC : World → Nat → List Int → Prop} (H : ChainAs N0 q n PC) (h5 : 5 ≤ q) (h4 : q ≤ 2147483647) (hpn : Spo.PowIs q n) (c r : Nat) (num : Int) (v : Value) (D : List Int) (w : World) (hN : N0 ≤ r) (hP : PC w c D) (hR : RCh q w r D) (hD : Dig D) (hN1 : 1 ≤ num) (hN2 : num ≤ 65536) :
    Calls Tryd.prog 8 #[.pointer (some ⟨c, 0, none⟩), .pointer (some ⟨r, 0, none⟩), .agg #[.int .i64 4, .int .i64 num, v]] w fun e w' => e = .returned (.bool true) ∧ DoneR q PC c r w w' := by
  have HH := hid H
  have HPN := hid hpn
  have HD := hid hD
  have HB := hid (dnb_start H 4 num v hP hR)
  obtain ⟨W0, hW0⟩ : ∃ W0, W0 = w.alloc (.cells #[.int .i64 4, .int .i64 num, v] 34) := ⟨_, rfl⟩
  rw [← hW0] at HB
  have d0 := trio_c0 HB.out.op
  have d1 := trio_c1 HB.out.op
  have HDR := hid (H.place c num D W0 HB.out.pc hD hN1 hN2)
  clear H hpn hD hP hR
  go_enter Tryd.func8, Tryd.ntmps8
  rw [hW0] at d0 d1
  go_wp2_with fail
  rw [← hW0]
  clear hW0 d0 d1
  refine HDR.out.mono ?_
  rintro e w1 ⟨rfl, hP1, hg1⟩
  have H1 := hid (HB.out.prog HH.out hP1 hg1)
  have HNE := hid HB.out.ne.1
  have HOL : Hid (w.heap.size ≠ r ∧ w.heap.size < w1.heap.size) := ⟨HB.out.ne.2.2, by have := HB.out.lt; have := hg1.size; omega⟩
  clear hP1 hg1 HDR HB
  have d1 := trio_c1 H1.out.2.2.1
  obtain ⟨z, hz⟩ : ∃ z, z = (zat (digl q n (4 :: D)) 0 * q + zat (digl q n (4 :: D)) 1) % num := ⟨_, rfl⟩
  have HRD := hid (rplace_any q n r num D w1 h5 h4 HPN.out (by rw [HD.out.1]; omega) HD.out.2 H1.out.2.1 hN1 hN2)
  have hzl : z < num := by rw [hz]; exact Int.emod_lt_of_pos _ (by omega)
  rw [← hz] at HRD ⊢
  have hzz : (z == z) = true := by simp
  have hn1 : ¬ num < 1 := by omega
  clear hz
  go_wp2_with fail
  refine HRD.out.mono ?_
  rintro e w2 ⟨rfl, hR2, hg2⟩
  have HE : Hid (DoneR q PC c r w w2) := ⟨_, dig_digl (by omega) h4 n _, HH.out.other H1.out.1 hg2 HNE.out hN, hR2, H1.out.2.2.2.trans (pair_2 hg2)⟩
  have d1' := trio_c1 ((gb_blk hg2 HOL.out.2 HOL.out.1).trans H1.out.2.2.1)
  clear hR2 hg2 HRD H1 d1
  go_wp2_with fail
  go_ret
  exact ⟨rfl, HE.out⟩

set_option maxRecDepth 100000 in
set_option maxHeartbeats 1000000 in
theorem done_placeNo {N0 q n : Nat} {PC : World → Nat → List Int → Prop} (H : ChainAs N0 q n PC) (c r : Nat) (num : Int) (v : Value) (D : List Int) (w : World) (hP : PC w c D) (hR : RCh q w r D) (hD : Dig D) (hN : num < 1 ∨ 65536 < num) :
    Calls Tryd.prog 8 #[.pointer (some ⟨c, 0, none⟩), .pointer (some ⟨r, 0, none⟩), .agg #[.int .i64 4, .int .i64 num, v]] w fun e w' => e = .returned (.bool true) ∧ DoneR q PC c r w w' := by
  have HH := hid H
  have HD := hid hD
  have HB := hid (dnb_start H 4 num v hP hR)
  obtain ⟨W0, hW0⟩ : ∃ W0, W0 = w.alloc (.cells #[.int .i64 4, .int .i64 num, v] 34) := ⟨_, rfl⟩
  rw [← hW0] at HB
  have d0 := trio_c0 HB.out.op
  have d1 := trio_c1 HB.out.op
  have HDR := hid (H.placeNo c num D W0 HB.out.pc hN)
  have HRN := hid (fun W => rplace_no r num W hN)
  have HCS : Hid (num < 1 ∨ ¬ num < 1 ∧ (0 : Int) < num) := by unfold Hid; omega
  clear H hD hP hR hN
  go_enter Tryd.func8, Tryd.ntmps8
  rw [hW0] at d0 d1
  go_wp2_with fail
  rw [← hW0]
  clear hW0 d0 d1
  refine HDR.out.mono ?_
  rintro e w1 ⟨rfl, hb1⟩
  have H1 := hid (HB.out.keep HH.out hb1)
  clear hb1 HDR HB
  have d1 := trio_c1 H1.out.op
  go_wp2_with fail
  refine (HRN.out w1).mono ?_
  rintro e w2 ⟨rfl, rfl⟩
  have HE : Hid (DoneR q PC c r w w2) := ⟨D, HD.out, H1.out.pc, H1.out.rc, H1.out.pair⟩
  clear H1 HRN
  rcases HCS.out with hn | ⟨hn, hn2⟩
  · clear HCS
    go_wp2_with fail
    go_ret
    exact ⟨rfl, HE.out⟩
  · clear HCS
    go_wp2_with fail
    go_ret
    exact ⟨rfl, HE.out⟩

set_option maxRecDepth 100000 in
set_option maxHeartbeats 1000000 in
theorem done_none {N0 q n : Nat} {PC : World → Nat → List Int → Prop} (H : ChainAs N0 q n PC) (c r : Nat) (kind num : Int) (v : Value) (D : List Int) (w : World) (hP : PC w c D) (hR : RCh q w r D) (hD : Dig D) (hk : (kind == 1) = false ∧ (kind == 2) = false ∧ (kind == 3) = false ∧ (kind == 4) = false) :
    Calls Tryd.prog 8 #[.pointer (some ⟨c, 0, none⟩), .pointer (some ⟨r, 0, none⟩), .agg #[.int .i64 kind, .int .i64 num, v]] w fun e w' => e = .returned (.bool true) ∧ DoneR q PC c r w w' := by
  have HB := hid (dnb_start H kind num v hP hR)
  have d0 := trio_c0 HB.out.op
  have HE : Hid (DoneR q PC c r w (w.alloc (.cells #[.int .i64 kind, .int .i64 num, v] 34))) := ⟨D, hD, HB.out.pc, HB.out.rc, HB.out.pair⟩
  obtain ⟨k1, k2, k3, k4⟩ := hk
  clear H hD hP hR HB
  go_enter Tryd.func8, Tryd.ntmps8
  go_wp2_with fail
  go_ret
  exact ⟨rfl, HE.out⟩

end Go.Proofs.YtgjkakfkefpgbafDoor
