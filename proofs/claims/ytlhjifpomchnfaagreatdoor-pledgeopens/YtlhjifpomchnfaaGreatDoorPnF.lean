
import Derived.Test.YtlhjifpomchnfaaGreatDoorPoAW
import Derived.Test.YtlhjifpomchnfaaGreatDoorPoAX
import Derived.Test.YtlhjifpomchnfaaGreatDoorPoAY
set_option maxRecDepth 1000000
set_option maxHeartbeats 8000000
namespace Go.Proofs.YtlhjifpomchnfaaGreatDoor
open Go.RowKit
structure OpP (N0 q n c O G : Nat) (X : Obj) (W1 W : World) (D : List Int) (rv cv : Value) (M : Nat) (vals : List Value) (C : List (List Int)) (F : Nat -> Value) (Ls : List (Value × List Int)) : Prop where
 g : W1.grownBy W (some c)
 ch : PCh N0 q n W c D
 bx : W.heap[G]? = some X
 rw : W.ownsRow W1.heap.size 22 1 rv M vals
 cl : OwnR W1.heap.size W cv C
 o : W.rowIs O 33 6 F
 al : AlS F
 ls : ∀ p, p ∈ Ls -> SlR W p.2 p.1
theorem OpP.below {N0 q n c O G M : Nat} {X : Obj} {W1 W W' : World} {D : List Int} {rv cv : Value} {vals : List Value} {C : List (List Int)} {F : Nat -> Value} {Ls : List (Value × List Int)} (h : OpP N0 q n c O G X W1 W D rv cv M vals C F Ls) (e : Below W.heap.size W W') : OpP N0 q n c O G X W1 W' D rv cv M vals C F Ls :=
 ⟨gb_trans h.g (gb_below e), h.ch.below e, (e.block G (Array.getElem?_eq_some_iff.1 h.bx).1).trans h.bx, own_step h.rw e, h.cl.keep e, World.rowIs.of_block h.o (e.block O (World.rowIs.lt h.o)), h.al, fun p hp => (h.ls p hp).keep e⟩
theorem OpP.step {N0 q n c O G M : Nat} {X : Obj} {W1 W W' : World} {D D' : List Int} {rv cv : Value} {vals : List Value} {C : List (List Int)} {F : Nat -> Value} {Ls : List (Value × List Int)} (h : OpP N0 q n c O G X W1 W D rv cv M vals C F Ls) (e : W.grownBy W' (some c)) (hc : PCh N0 q n W' c D') (hO : O ≠ c) (hG : G ≠ c) : OpP N0 q n c O G X W1 W' D' rv cv M vals C F Ls :=
 ⟨gb_trans h.g e, hc, (gb_blk e (Array.getElem?_eq_some_iff.1 h.bx).1 hG).trans h.bx, own_pstep h.rw h.ch e, h.cl.pstep h.ch e, World.rowIs.of_block h.o (gb_blk e (World.rowIs.lt h.o) hO), h.al, fun p hp => (h.ls p hp).pstep h.ch e⟩
theorem OpP.set {N0 q n c O G M i : Nat} {X : Obj} {W1 W : World} {D : List Int} {rv cv v : Value} {vals : List Value} {C : List (List Int)} {F F' : Nat -> Value} {Ls : List (Value × List Int)} (h : OpP N0 q n c O G X W1 W D rv cv M vals C F Ls) (hW : W1.heap.size <= O) (hN : N0 <= O) (hG : G ≠ O) (ho : (W.setCell ⟨O, i, none⟩ v).rowIs O 33 6 F') (ha : AlS F') : OpP N0 q n c O G X W1 (W.setCell ⟨O, i, none⟩ v) D rv cv M vals C F' Ls :=
 ⟨⟨h.g.os, h.g.tape, h.g.output, by have := h.g.size; simpa [World.setCell] using this, fun k hk hkr => (Below.heap_setCell _ _ _ _ (by show k ≠ O; omega)).trans (h.g.block k hk hkr)⟩, h.ch.setP h.o hN, (Below.heap_setCell _ _ _ _ (by show G ≠ O; exact hG)).trans h.bx, own_setP h.rw h.o, h.cl.setP h.o h.al, ho, ha, fun p hp => (h.ls p hp).setP h.o h.al⟩
theorem OpP.add {N0 q n c O G M : Nat} {X : Obj} {W1 W : World} {D : List Int} {rv cv : Value} {vals : List Value} {C : List (List Int)} {F : Nat -> Value} {Ls : List (Value × List Int)} (h : OpP N0 q n c O G X W1 W D rv cv M vals C F Ls) {u : Value} {l : List Int} (hu : SlR W l u) : OpP N0 q n c O G X W1 W D rv cv M vals C F ((u, l) :: Ls) :=
 ⟨h.g, h.ch, h.bx, h.rw, h.cl, h.o, h.al, fun p hp => by
  rcases List.mem_cons.1 hp with rfl | hp
  ·exact hu
  ·exact h.ls p hp⟩
theorem sx_of {W : World} {g : Nat} {t : TypeId} {a b c d e f : Value} (h : W.heap[g]? = some (.cells #[a, b, c, d, e, f] t (0, 0))) : W.rowIs g t 6 (sx a b c d e f) :=
 ⟨_, h, rfl, fun i hi => by
  have : i = 0 ∨ i = 1 ∨ i = 2 ∨ i = 3 ∨ i = 4 ∨ i = 5 := by omega
  rcases this with rfl | rfl | rfl | rfl | rfl | rfl <;> rfl⟩
theorem sx_six {W : World} {g : Nat} {t : TypeId} {a b c d e f : Value} (h : W.rowIs g t 6 (sx a b c d e f)) (a' b' c' d' e' f' : Value) : (((((((W.setCell ⟨g, 0, none⟩ a').setCell ⟨g, 1, none⟩ b').setCell ⟨g, 2, none⟩ c').setCell ⟨g, 3, none⟩ d').setCell ⟨g, 4, none⟩ e').setCell ⟨g, 5, none⟩ f')).rowIs g t 6 (sx a' b' c' d' e' f') :=
 sx_set5 (sx_set4 (sx_set3 (sx_set2 (sx_set1 (sx_set0 h a') b') c') d') e') f'
theorem sx_facts {W : World} {g : Nat} {t : TypeId} {a b c d e f : Value} (h : W.rowIs g t 6 (sx a b c d e f)) : (W.cell? ⟨g, 0, none⟩ = some a /\ W.cell? ⟨g, 1, none⟩ = some b /\ W.cell? ⟨g, 2, none⟩ = some c /\ W.cell? ⟨g, 3, none⟩ = some d /\ W.cell? ⟨g, 4, none⟩ = some e /\ W.cell? ⟨g, 5, none⟩ = some f) :=
 ⟨h.cell (i := 0) (by omega), h.cell (i := 1) (by omega), h.cell (i := 2) (by omega), h.cell (i := 3) (by omega), h.cell (i := 4) (by omega), h.cell (i := 5) (by omega)⟩
theorem below_six {n0 : Nat} {w W : World} {g : Nat} (h : Below n0 w W) (hg : n0 <= g) (a' b' c' d' e' f' : Value) : Below n0 w ((((((W.setCell ⟨g, 0, none⟩ a').setCell ⟨g, 1, none⟩ b').setCell ⟨g, 2, none⟩ c').setCell ⟨g, 3, none⟩ d').setCell ⟨g, 4, none⟩ e').setCell ⟨g, 5, none⟩ f') :=
 (((((h.setCell (p := ⟨g, 0, none⟩) hg _).setCell (p := ⟨g, 1, none⟩) hg _).setCell (p := ⟨g, 2, none⟩) hg _).setCell (p := ⟨g, 3, none⟩) hg _).setCell (p := ⟨g, 4, none⟩) hg _).setCell (p := ⟨g, 5, none⟩) hg _
theorem slr_six {W : World} {R : Nat} {t : TypeId} {a b c d e f a' b' c' d' e' f' u : Value} {l : List Int} (h : SlR W l u) (hO : W.rowIs R t 6 (sx a b c d e f)) (hF : AlS (sx a b c d e f)) (hF' : AlS (sx a' b' c' d' e' f')) : SlR ((((((W.setCell ⟨R, 0, none⟩ a').setCell ⟨R, 1, none⟩ b').setCell ⟨R, 2, none⟩ c').setCell ⟨R, 3, none⟩ d').setCell ⟨R, 4, none⟩ e').setCell ⟨R, 5, none⟩ f') l u := by
 have o1 := sx_set0 hO a'
 have f1 : AlS (sx a' b c d e f) := alS (hF' 0 (by omega)) (hF 1 (by omega)) (hF 2 (by omega)) (hF 3 (by omega)) (hF 4 (by omega)) (hF 5 (by omega))
 have o2 := sx_set1 o1 b'
 have f2 : AlS (sx a' b' c d e f) := alS (hF' 0 (by omega)) (hF' 1 (by omega)) (hF 2 (by omega)) (hF 3 (by omega)) (hF 4 (by omega)) (hF 5 (by omega))
 have o3 := sx_set2 o2 c'
 have f3 : AlS (sx a' b' c' d e f) := alS (hF' 0 (by omega)) (hF' 1 (by omega)) (hF' 2 (by omega)) (hF 3 (by omega)) (hF 4 (by omega)) (hF 5 (by omega))
 have o4 := sx_set3 o3 d'
 have f4 : AlS (sx a' b' c' d' e f) := alS (hF' 0 (by omega)) (hF' 1 (by omega)) (hF' 2 (by omega)) (hF' 3 (by omega)) (hF 4 (by omega)) (hF 5 (by omega))
 have o5 := sx_set4 o4 e'
 have f5 : AlS (sx a' b' c' d' e' f) := alS (hF' 0 (by omega)) (hF' 1 (by omega)) (hF' 2 (by omega)) (hF' 3 (by omega)) (hF' 4 (by omega)) (hF 5 (by omega))
 exact (((((h.setP hO hF).setP o1 f1).setP o2 f2).setP o3 f3).setP o4 f4).setP o5 f5
theorem ownR_six {W : World} {R base : Nat} {a b c d e f a' b' c' d' e' f' u : Value} {l : List (List Int)} (h : OwnR base W u l) (hO : W.rowIs R 33 6 (sx a b c d e f)) (hF : AlS (sx a b c d e f)) (hF' : AlS (sx a' b' c' d' e' f')) : OwnR base ((((((W.setCell ⟨R, 0, none⟩ a').setCell ⟨R, 1, none⟩ b').setCell ⟨R, 2, none⟩ c').setCell ⟨R, 3, none⟩ d').setCell ⟨R, 4, none⟩ e').setCell ⟨R, 5, none⟩ f') u l := by
 have o1 := sx_set0 hO a'
 have f1 : AlS (sx a' b c d e f) := alS (hF' 0 (by omega)) (hF 1 (by omega)) (hF 2 (by omega)) (hF 3 (by omega)) (hF 4 (by omega)) (hF 5 (by omega))
 have o2 := sx_set1 o1 b'
 have f2 : AlS (sx a' b' c d e f) := alS (hF' 0 (by omega)) (hF' 1 (by omega)) (hF 2 (by omega)) (hF 3 (by omega)) (hF 4 (by omega)) (hF 5 (by omega))
 have o3 := sx_set2 o2 c'
 have f3 : AlS (sx a' b' c' d e f) := alS (hF' 0 (by omega)) (hF' 1 (by omega)) (hF' 2 (by omega)) (hF 3 (by omega)) (hF 4 (by omega)) (hF 5 (by omega))
 have o4 := sx_set3 o3 d'
 have f4 : AlS (sx a' b' c' d' e f) := alS (hF' 0 (by omega)) (hF' 1 (by omega)) (hF' 2 (by omega)) (hF' 3 (by omega)) (hF 4 (by omega)) (hF 5 (by omega))
 have o5 := sx_set4 o4 e'
 have f5 : AlS (sx a' b' c' d' e' f) := alS (hF' 0 (by omega)) (hF' 1 (by omega)) (hF' 2 (by omega)) (hF' 3 (by omega)) (hF' 4 (by omega)) (hF 5 (by omega))
 exact (((((h.setP hO hF).setP o1 f1).setP o2 f2).setP o3 f3).setP o4 f4).setP o5 f5
theorem pch_six {N0 q n : Nat} {W : World} {k R : Nat} {D : List Int} {a b c d e f a' b' c' d' e' f' : Value} (h : PCh N0 q n W k D) (hO : W.rowIs R 33 6 (sx a b c d e f)) (hN : N0 <= R) : PCh N0 q n ((((((W.setCell ⟨R, 0, none⟩ a').setCell ⟨R, 1, none⟩ b').setCell ⟨R, 2, none⟩ c').setCell ⟨R, 3, none⟩ d').setCell ⟨R, 4, none⟩ e').setCell ⟨R, 5, none⟩ f') k D :=
 (((((h.setP hO hN).setP (sx_set0 hO a') hN).setP (sx_set1 (sx_set0 hO a') b') hN).setP (sx_set2 (sx_set1 (sx_set0 hO a') b') c') hN).setP (sx_set3 (sx_set2 (sx_set1 (sx_set0 hO a') b') c') d') hN).setP (sx_set4 (sx_set3 (sx_set2 (sx_set1 (sx_set0 hO a') b') c') d') e') hN
theorem blk_six {W : World} {R x : Nat} (hx : x ≠ R) (a' b' c' d' e' f' : Value) : ((((((W.setCell ⟨R, 0, none⟩ a').setCell ⟨R, 1, none⟩ b').setCell ⟨R, 2, none⟩ c').setCell ⟨R, 3, none⟩ d').setCell ⟨R, 4, none⟩ e').setCell ⟨R, 5, none⟩ f').heap[x]? = W.heap[x]? := by
 rw [Below.heap_setCell _ _ _ _ hx, Below.heap_setCell _ _ _ _ hx, Below.heap_setCell _ _ _ _ hx, Below.heap_setCell _ _ _ _ hx, Below.heap_setCell _ _ _ _ hx, Below.heap_setCell _ _ _ _ hx]
theorem gb_set1 {w W : World} {k R : Nat} (h : w.grownBy W (some k)) (hR : w.heap.size <= R) (i : Nat) (v : Value) : w.grownBy (W.setCell ⟨R, i, none⟩ v) (some k) :=
 ⟨h.os, h.tape, h.output, by have := h.size; simpa [World.setCell] using this, fun x hx hxr => (Below.heap_setCell _ _ _ _ (by show x ≠ R; omega)).trans (h.block x hx hxr)⟩
theorem gb_six {w W : World} {k R : Nat} (h : w.grownBy W (some k)) (hR : w.heap.size <= R) (a' b' c' d' e' f' : Value) : w.grownBy ((((((W.setCell ⟨R, 0, none⟩ a').setCell ⟨R, 1, none⟩ b').setCell ⟨R, 2, none⟩ c').setCell ⟨R, 3, none⟩ d').setCell ⟨R, 4, none⟩ e').setCell ⟨R, 5, none⟩ f') (some k) :=
 gb_set1 (gb_set1 (gb_set1 (gb_set1 (gb_set1 (gb_set1 h hR 0 _) hR 1 _) hR 2 _) hR 3 _) hR 4 _) hR 5 _
theorem popened_any (N0 q n dd sb sp c b d v cT c4 N asked ap o : Nat) (s r : Int) (a4 : Option Addr) (t at' D : List Int) (w : World) (ok : SpgOk q n dd) (hP : PCh N0 q n w c D) (hD : Dig D)
  (RO : ∀ W, w.grownBy W (some c) -> SpgAt W sp sb q n dd /\ DO W q b d N r s /\ Lst W.heap.size W (some ⟨ap, o, none⟩) cT t /\ Lst W.heap.size W a4 c4 at') (hv : v <= 12) (hat : at'.length = v) (ht : t.length = 2 ^ v) (hft : Fits t) (hfa : Fits at') (ha1 : 1 <= asked) (ha : asked <= 64) :
  Calls Tryz.prog 33 #[shV b d v, .pointer (some ⟨sp, 0, none⟩), .pointer (some ⟨c, 0, none⟩), .slice (some ⟨ap, o, none⟩) (2 ^ v) cT, .slice a4 v c4, .int .i64 (asked : Int)] w fun e w' => ∃ (root mixed point : List Int) (D1 D2 : List Int) (pl : List Int) (u0 u1 u2 u3 u4 u5 : Value),
   (root = ctz q n s r N v t /\ D1 = pgD q n root at' D /\ mixed = opM q v (pwl q (zat D1 0) (2 ^ (v / 2))) t /\ point = opM q v (wgL q (at'.take (v / 2))) t /\ D2 = pgE q n mixed point D1 /\ pl = pgP q n N asked D2) /\
   e = .returned (.tuple #[.agg #[u0, u1, u2, u3, u4, u5], .nilIface]) /\
   (SlR w' root u0 /\ SlR w' mixed u1 /\ SlR w' point u2 /\ SlR w' pl u3 /\ OwnR 0 w' u4 (shw q (cll q s r N (rwl (2 ^ (v - v / 2)) (2 ^ (v / 2)) t)) pl) /\ OwnR 0 w' u5 (ndf q n N (cll q s r N (rwl (2 ^ (v - v / 2)) (2 ^ (v / 2)) t)) pl 0)) /\
   PCh N0 q n w' c (pld q n asked D2) /\ w.grownBy w' (some c) := by
 obtain ⟨_, hDO, _, _⟩ := RO w (gb_refl _ _)
 obtain ⟨kk, hkk, hNN⟩ := hDO.hk
 have hN2 : N <= 65536 := by rw [hNN]; have := two_pow_le hkk; exact this
 have hN1 : 1 <= N := by rw [hNN]; exact Nat.one_le_two_pow
 have h3 := hDO.h3
 have h4 := hDO.hm
 have hm12 : 2 ^ (v / 2) <= 4096 := by have := Nat.pow_le_pow_right (show 0 < 2 by omega) (show v / 2 <= 12 by omega); omega
 have hst2 : 2 ^ (v - v / 2) <= 4096 := by have := Nat.pow_le_pow_right (show 0 < 2 by omega) (show v - v / 2 <= 12 by omega); omega
 have hM1 : 1 <= 2 ^ (v / 2) := Nat.one_le_two_pow
 have htl : t.length = 2 ^ (v - v / 2) * 2 ^ (v / 2) := by rw [ht]; exact half_two v
 have hcl := hP.lt
 have hcg := hP.ge
 obtain ⟨hi, hhi⟩ : ∃ hi, hi = v / 2 := ⟨_, rfl⟩
 obtain ⟨lo, hlo⟩ : ∃ lo, lo = v - v / 2 := ⟨_, rfl⟩
 obtain ⟨st, hst⟩ : ∃ st, st = 2 ^ (v - v / 2) := ⟨_, rfl⟩
 obtain ⟨M, hM⟩ : ∃ M, M = 2 ^ (v / 2) := ⟨_, rfl⟩
 obtain ⟨rows, hrows⟩ : ∃ rows, rows = rwl st M t := ⟨_, rfl⟩
 obtain ⟨C, hC⟩ : ∃ C, C = cll q s r N rows := ⟨_, rfl⟩
 obtain ⟨L, hL⟩ : ∃ L, L = 2 ^ v := ⟨_, rfl⟩
 have hSV : shV b d v = .agg #[.pointer (some ⟨b, 0, none⟩), .pointer (some ⟨d, 0, none⟩), .int .i64 (hi : Int), .int .i64 (lo : Int)] := by unfold shV; rw [hhi, hlo]
 have HRO := hid (fun (W : World) (hW : w.grownBy W (some c)) => prows_own b d v ap o cT M t W hv ht (by rw [hM]; exact half_two v) (RO W hW).2.2.1)
 have HCO := hid (fun (W : World) (hW : w.grownBy W (some c)) => pcolumns_own q b d v ap o cT M N r s t W (RO W hW).2.1 hv ht (by rw [hM]; exact half_two v) hft (RO W hW).2.2.1)
 rw [hSV, <- hL, <- hst] at HRO
 rw [hSV, <- hL, <- hst, <- hrows, <- hC] at HCO
 have hrl2 : rows.length = M := by rw [hrows, rwl_len]
 have hrF : FitsR rows := by rw [hrows, hst]; exact rwl_fits (by rw [htl, hM]) hft hst2
 have hrwd : ∀ k, k < rows.length -> (rat rows k).length = st := fun k hk => by rw [hrows]; exact rwl_wide (by rw [htl, hst, hM]) (by rw [hrl2] at hk; exact hk)
 have hCl : C.length = N := by rw [hC, cll_len]
 have hCF : FitsR C := by rw [hC]; exact cll_fits h3 h4 s r N rows hN2 (by rw [hrl2, hM]; exact hm12)
 have HRV : Hid (∀ (W : World) (x : Value) (base : Nat), w.grownBy W (some c) -> W.ownsRow base 22 1 x M ((List.range M).map (chv ap o st)) -> ∃ a c', x = .slice a M c' /\ LstR W.heap.size W a c' rows) := fun W x base hW ho => by
  rw [hrows]
  exact rows_of_owns (by rw [htl, hst, hM]) ho (RO W hW).2.2.1.row
 obtain ⟨root, hroot⟩ : ∃ root, root = ctz q n s r N v t := ⟨_, rfl⟩
 have hrt4 : root.length = 4 := by rw [hroot]; exact rtf_len _ _ _ _ hN1
 have hrtf : Fits root := by
  rw [hroot]
  unfold ctz
  exact fun j hj => rtf_fits h3 h4 _ _ _ _ hj
 have HRT : Hid (∀ (W : World) (k : Nat) (a : Option Addr), w.grownBy W (some c) -> LstR W.heap.size W a k C -> Calls Tryz.prog 74 #[.pointer (some ⟨sp, 0, none⟩), .slice a N k] W fun e w' => ∃ a k, e = .returned (.tuple #[.slice a 4 k, .nilIface]) /\ SlR w' root (.slice a 4 k) /\ Below W.heap.size W w') := fun W k a hW hla => by
  have h := treeroot_own q n dd sb sp k a C W ok (RO W hW).1 (by omega) (by omega) hCF hla
  rw [hCl] at h
  have e : root = rtf q n N C := by
   rw [hroot]
   unfold ctz
   rw [<- hst, <- hM, <- hrows, <- hC]
  rw [e]
  exact h
 obtain ⟨D1, hD1⟩ : ∃ D1, D1 = pgD q n root at' D := ⟨_, rfl⟩
 obtain ⟨r0, hr0'⟩ : ∃ r0, r0 = zat D1 0 := ⟨_, rfl⟩
 have hdD1 : Dig D1 := by rw [hD1]; exact dig_digl h3 h4 _ _
 have hr0b : -9223372036854775808 <= r0 /\ r0 <= 9223372036854775807 := by rw [hr0']; exact hdD1.2 0 (by rw [hdD1.1]; omega)
 obtain ⟨mixed, hmixed⟩ : ∃ mixed, mixed = opM q v (pwl q r0 M) t := ⟨_, rfl⟩
 obtain ⟨point, hpoint⟩ : ∃ point, point = opM q v (wgL q (at'.take hi)) t := ⟨_, rfl⟩
 have hml : mixed.length = st := by rw [hmixed, opM_len, hst]
 have hpl : point.length = st := by rw [hpoint, opM_len, hst]
 have hmf : Fits mixed := by rw [hmixed]; exact smr_fits h4 h3 _ _ _ _
 have hpf : Fits point := by rw [hpoint]; exact smr_fits h4 h3 _ _ _ _
 obtain ⟨D2, hD2⟩ : ∃ D2, D2 = pgE q n mixed point D1 := ⟨_, rfl⟩
 have hdD2 : Dig D2 := by rw [hD2]; exact dig_digl h3 h4 _ _
 obtain ⟨pl, hpl'⟩ : ∃ pl, pl = pgP q n N asked D2 := ⟨_, rfl⟩
 obtain ⟨D3, hD3⟩ : ∃ D3, D3 = pld q n asked D2 := ⟨_, rfl⟩
 have HDP : Hid (∀ (W : World) (a : Option Addr) (k : Nat), w.grownBy W (some c) -> PCh N0 q n W c D -> SlR W root (.slice a 4 k) -> Calls Tryz.prog 55 #[.pointer (some ⟨c, 0, none⟩), .slice a 4 k, .slice a4 v c4] W fun e w' => e = .returned (.int .i64 r0) /\ PCh N0 q n w' c D1 /\ W.grownBy w' (some c)) := fun W a k hW hc hs => by
  have h := drawPower_any N0 q n c k c4 a a4 root at' D W h3 h4 hc hD (by omega) (by omega) hrtf hfa (fun W' hW' => by
   obtain ⟨_, _, e1, h⟩ := (hs.pstep hc hW').lst
   rw [hrt4] at e1
   cases e1
   exact h) (fun W' hW' => (RO W' (gb_trans hW hW')).2.2.2)
  rw [hrt4, hat, <- hD1, <- hr0'] at h
  exact h
 have HDL : Hid (∀ (W : World) (a2 a3 : Option Addr) (k2 k3 : Nat) (x1 x4 x5 x6 : Value), w.grownBy W (some c) -> PCh N0 q n W c D1 -> SlR W mixed (.slice a2 st k2) -> SlR W point (.slice a3 st k3) -> Calls Tryz.prog 57 #[.agg #[.pointer (some ⟨b, 0, none⟩), .pointer (some ⟨d, 0, none⟩), .int .i64 (hi : Int), .int .i64 (lo : Int)], .pointer (some ⟨c, 0, none⟩), .agg #[x1, .slice a2 st k2, .slice a3 st k3, x4, x5, x6], .int .i64 (asked : Int)] W fun e w' => ∃ x, e = .returned x /\ w'.ownsRow W.heap.size 3 1 x pl.length (pl.map (Value.int .i64)) /\ PCh N0 q n w' c D3 /\ W.grownBy w' (some c)) := fun W a2 a3 k2 k3 x1 x4 x5 x6 hW hc hs2 hs3 => by
  have h := drawPlaces_any N0 q n c d b N asked k2 k3 a2 a3 (.pointer (some ⟨b, 0, none⟩)) (.int .i64 (hi : Int)) (.int .i64 (lo : Int)) x1 x4 x5 x6 r s mixed point D1 W h3 h4 hc hdD1 (by rw [hml, hst]; omega) (by rw [hpl, hst]; omega) hmf hpf hN1 hN2 (by omega) (fun W' hW' => (RO W' (gb_trans hW hW')).2.1.da) (fun W' hW' => by
   obtain ⟨_, _, e1, h⟩ := (hs2.pstep hc hW').lst
   rw [hml] at e1
   cases e1
   exact h) (fun W' hW' => by
   obtain ⟨_, _, e1, h⟩ := (hs3.pstep hc hW').lst
   rw [hpl] at e1
   cases e1
   exact h)
  rw [hml, hpl, <- hD2, <- hD3, <- hpl'] at h
  exact h
 have HTO : Hid (∀ (W : World) (k cp : Nat) (a a2 : Option Addr), w.grownBy W (some c) -> LstR W.heap.size W a k C -> RowB W.heap.size W a2 pl -> Calls Tryz.prog 83 #[.pointer (some ⟨sp, 0, none⟩), .slice a N k, .slice a2 pl.length cp] W fun e w' => ∃ v3 v4 v5, e = .returned (.tuple #[.agg #[v3, v4, v5], .nilIface]) /\ SlR w' pl v3 /\ OwnR W.heap.size w' v4 (shw q C pl) /\ OwnR W.heap.size w' v5 (ndf q n N C pl 0) /\ Below W.heap.size W w') := fun W k cp a a2 hW hla hlp => by
  have hple : pl.length <= asked := by
   rw [hpl']
   unfold pgP
   have h := asc_le (onc_is (ls (plz q n N D2) asked)).1 (fun x hx => ((onc_is (ls (plz q n N D2) asked)).2 x).1 hx)
   rw [ls_len] at h
   exact h
  have hin : ∀ x, x ∈ pl -> 0 <= x /\ x < (N : Int) := fun x hx => by
   rw [hpl'] at hx
   unfold pgP at hx
   have hx2 := ((onc_is _).2 x).1 hx
   unfold ls at hx2
   obtain ⟨i, _, rfl⟩ := List.mem_map.1 hx2
   exact plz_bounds (by omega) _ _
  have h := open_any q n dd sb sp k cp a a2 C pl W ok (RO W hW).1 (by omega) (by omega) (by omega) hCF hla hlp (by
   rw [List.any_eq_false]
   intro x hx
   have := hin x hx
   unfold lackb
   simp
   omega)
  rw [hCl] at h
  refine h.mono ?_
  rintro e w' ⟨os, a3, ar, an', cp', cr, cn, rfl, hos, k3, k4, k5, k6⟩
  have hop : os = pl := by
   have h7 : OnceIs pl pl := by
    rw [hpl']
    unfold pgP
    exact ⟨(onc_is _).1, fun x => Iff.rfl⟩
   rw [onc_eq hos, <- onc_eq h7]
  subst hop
  refine ⟨_, _, _, rfl, k3, k4, ?_, k6⟩
  rw [<- hCl]
  exact k5
 have hhv : hi <= v := by omega
 have htk : (at'.take hi).length = hi := by rw [List.length_take, hat]; omega
 obtain ⟨L1, hL1⟩ : ∃ L1, L1 = wgL q (at'.take hi) := ⟨_, rfl⟩
 have hL1l : L1.length = M := by rw [hL1, wgL_len, htk, hhi, hM]
 have hL1f : Fits L1 := by rw [hL1]; exact wgL_fits h4 h3 _
 have HXT : Hid (∀ W, w.grownBy W (some c) -> Calls Tryz.prog 34 #[.agg #[.pointer (some ⟨b, 0, none⟩), .pointer (some ⟨d, 0, none⟩), .int .i64 (hi : Int), .int .i64 (lo : Int)], .slice a4 hi c4] W fun e w' => ∃ B0 B1, e = .returned (.func (.func 85) #[] #[.pointer (some ⟨B0, 0, none⟩), .pointer (some ⟨B1, 0, none⟩)]) /\ ExQ w' W.heap.size B0 B1 b L1 /\ Below W.heap.size W w') := fun W hW => by
  have h := extend_any q b c4 (.pointer (some ⟨d, 0, none⟩)) (hi : Int) (lo : Int) a4 (at'.take hi) W h3 h4 (RO W hW).2.1.hp (by rw [htk]; omega) (fun j hj => by
   rw [htk] at hj
   have := hfa.all j
   simp only [zat, List.getElem?_take, if_pos hj] at this ⊢
   exact this) (fun k hk => by
   rw [htk] at hk
   obtain ⟨b', o', e1, e2, e3⟩ := (RO W hW).2.2.2.row k (by rw [hat]; omega)
   refine ⟨b', o', e1, e2, ?_⟩
   rw [e3]
   simp only [zat, List.getElem?_take, if_pos hk])
  rw [htk, <- hL1] at h
  exact h
 have HAP : Hid (∀ (W : World) (k B0 B1 : Nat) (a : Option Addr), w.grownBy W (some c) -> W.cell? ⟨B0, 0, none⟩ = some (.pointer (some ⟨b, 0, none⟩)) -> W.cell? ⟨B1, 0, none⟩ = some (.int .i64 r0) -> LstR W.heap.size W a k rows -> Calls Tryz.prog 82 #[.slice a M k, .func (.func 107) #[] #[.pointer (some ⟨B0, 0, none⟩), .pointer (some ⟨B1, 0, none⟩)]] W fun e w' => e = .returned (.slice (some ⟨W.heap.size, 0, none⟩) st st) /\ SlR w' mixed (.slice (some ⟨W.heap.size, 0, none⟩) st st) /\ Below W.heap.size W w') := fun W k B0 B1 a hW k0 k1 hl => by
  have h := across_pow q b B0 B1 k st r0 a rows W h3 h4 (RO W hW).2.1.hp k0 k1 hr0b.1 hr0b.2 (by rw [hrl2, hM]; exact hM1) (by rw [hrl2, hM]; omega) (by rw [hst]; omega) hrF hrwd hl
  rw [hrl2] at h
  have e : mixed = smr q M (pwl q r0 M) rows st := by rw [hmixed]; unfold opM; rw [<- hst, <- hM, <- hrows]
  rw [e]
  exact h
 have HAE : Hid (∀ (W : World) (k lo' B0 B1 : Nat) (a : Option Addr), w.grownBy W (some c) -> ExQ W lo' B0 B1 b L1 -> LstR W.heap.size W a k rows -> Calls Tryz.prog 82 #[.slice a M k, .func (.func 85) #[] #[.pointer (some ⟨B0, 0, none⟩), .pointer (some ⟨B1, 0, none⟩)]] W fun e w' => e = .returned (.slice (some ⟨W.heap.size, 0, none⟩) st st) /\ SlR w' point (.slice (some ⟨W.heap.size, 0, none⟩) st st) /\ Below W.heap.size W w') := fun W k lo' B0 B1 a hW hX hl => by
  have h := across_ext q b lo' B0 B1 k st L1 a rows W h3 h4 (RO W hW).2.1.hp hX (by rw [hL1l, hrl2]) hL1f (by rw [hrl2, hM]; exact hM1) (by rw [hrl2, hM]; omega) (by rw [hst]; omega) hrF hrwd hl
  rw [hrl2] at h
  have e : point = smr q M L1 rows st := by rw [hpoint, hL1]; unfold opM; rw [<- hst, <- hM, <- hrows]
  rw [e]
  exact h
 obtain ⟨S4, hS4⟩ : ∃ S4, S4 = shw q C pl := ⟨_, rfl⟩
 obtain ⟨S5, hS5⟩ : ∃ S5, S5 = ndf q n N C pl 0 := ⟨_, rfl⟩
 rw [<- hS4, <- hS5] at HTO
 suffices H : Calls Tryz.prog 33 #[.agg #[.pointer (some ⟨b, 0, none⟩), .pointer (some ⟨d, 0, none⟩), .int .i64 (hi : Int), .int .i64 (lo : Int)], .pointer (some ⟨sp, 0, none⟩), .pointer (some ⟨c, 0, none⟩), .slice (some ⟨ap, o, none⟩) L cT, .slice a4 v c4, .int .i64 (asked : Int)] w fun e w' => ∃ (u0 u1 u2 u3 u4 u5 : Value), e = .returned (.tuple #[.agg #[u0, u1, u2, u3, u4, u5], .nilIface]) /\
   (SlR w' root u0 /\ SlR w' mixed u1 /\ SlR w' point u2 /\ SlR w' pl u3 /\ OwnR 0 w' u4 S4 /\ OwnR 0 w' u5 S5) /\ PCh N0 q n w' c D3 /\ w.grownBy w' (some c) by
  rw [hSV, <- hL, <- hM, <- hst, <- hhi, <- hrows, <- hC]
  refine H.mono ?_
  rintro e w' ⟨u0, u1, u2, u3, u4, u5, rfl, k1, k2, k3⟩
  rw [hS4, hS5] at k1
  refine ⟨root, mixed, point, D1, D2, pl, u0, u1, u2, u3, u4, u5, ⟨hroot, hD1, by rw [hmixed, hr0'], hpoint, hD2, hpl'⟩, rfl, k1, by rw [<- hD3]; exact k2, k3⟩
 have HQ : Hid (C.length = N /\ rows.length = M /\ root.length = 4 /\ mixed.length = st /\ point.length = st /\ at'.length = v /\ hi <= v /\ v <= 12) := ⟨hCl, hrl2, hrt4, hml, hpl, hat, hhv, hv⟩
 have HN : Hid (c < w.heap.size /\ N0 <= c) := ⟨hcl, hcg⟩
 have HPC := hid hP
 have HRF := hid RO
 obtain ⟨W0, hW0⟩ : ∃ W0, W0 = w.alloc (.cells #[.pointer (some ⟨b, 0, none⟩), .pointer (some ⟨d, 0, none⟩), .int .i64 (hi : Int), .int .i64 (lo : Int)] 87) := ⟨_, rfl⟩
 obtain ⟨W1, hW1⟩ : ∃ W1, W1 = W0.alloc (.cells #[.slice none 0 0, .slice none 0 0, .slice none 0 0, .slice none 0 0, .slice none 0 0, .slice none 0 0] 33) := ⟨_, rfl⟩
 obtain ⟨G, hG⟩ : ∃ G, G = w.heap.size := ⟨_, rfl⟩
 obtain ⟨O, hO⟩ : ∃ O, O = W0.heap.size := ⟨_, rfl⟩
 have hz0 : W0.heap.size = w.heap.size + 1 := by rw [hW0]; simp
 have hb0 : Below w.heap.size w W0 := by rw [hW0]; exact (Below.refl _ _).alloc (Nat.le_refl _) _
 have hb01 : Below W0.heap.size W0 W1 := by rw [hW1]; exact (Below.refl _ _).alloc (Nat.le_refl _) _
 have hb1 : Below w.heap.size w W1 := hb0.trans (hb01.mono hb0.size)
 have hs0 : W0.heap[G]? = some (.cells #[.pointer (some ⟨b, 0, none⟩), .pointer (some ⟨d, 0, none⟩), .int .i64 (hi : Int), .int .i64 (lo : Int)] 87 (0, 0)) := by rw [hW0, hG]; exact heap_alloc_new w _
 have hs1 : W1.heap[G]? = some (.cells #[.pointer (some ⟨b, 0, none⟩), .pointer (some ⟨d, 0, none⟩), .int .i64 (hi : Int), .int .i64 (lo : Int)] 87 (0, 0)) := (hb01.block G (Array.getElem?_eq_some_iff.1 hs0).1).trans hs0
 have ho1 : W1.rowIs O 33 6 (sx (.slice none 0 0) (.slice none 0 0) (.slice none 0 0) (.slice none 0 0) (.slice none 0 0) (.slice none 0 0)) := by rw [hW1, hO]; exact sx_new W0 _ _ _ _ _ _ _
 have HOR : Hid (O ≠ c /\ G ≠ c /\ G ≠ O /\ w.heap.size <= O /\ N0 <= O /\ W0.heap.size <= O /\ O = G + 1) := ⟨by omega, by omega, by omega, by omega, by omega, by omega, by omega⟩
 have HB0 := hid hb0
 have HB01 := hid hb01
 have HB1 := hid hb1
 have HS1 := hid hs1
 have HO1 := hid ho1
 have HGC : Hid (∀ W : World, W.heap[G]? = some (.cells #[.pointer (some ⟨b, 0, none⟩), .pointer (some ⟨d, 0, none⟩), .int .i64 (hi : Int), .int .i64 (lo : Int)] 87 (0, 0)) -> W.cell? ⟨G, 0, none⟩ = some (.pointer (some ⟨b, 0, none⟩)) /\ W.cell? ⟨G, 1, none⟩ = some (.pointer (some ⟨d, 0, none⟩)) /\ W.cell? ⟨G, 2, none⟩ = some (.int .i64 (hi : Int)) /\ W.cell? ⟨G, 3, none⟩ = some (.int .i64 (lo : Int))) := fun W e1 =>
  ⟨by simp [World.cell?, e1], by simp [World.cell?, e1], by simp [World.cell?, e1], by simp [World.cell?, e1]⟩
 have HW0 := hid hW0
 have HW1 := hid hW1
 have HGE := hid hG
 have HOE := hid hO
 have hiv2 : (hi : Int) <= (v : Int) := by omega
 have hi0 : (0 : Int) <= (hi : Int) := by omega
 have hroom := (RO w (gb_refl _ _)).2.2.2.room
 rw [hat] at hroom
 have hic : (hi : Int) <= (c4 : Int) := by omega
 clear hW0 hW1 hG hO hz0 hb0 hb01 hb1 hs0 hs1 ho1 hS4 hS5 hhv htk hL1 hL1l hL1f hpl' hD3 hdD2 hD2 hpf hmf hpl hml hpoint hmixed hr0b hdD1 hr0' hD1 hrtf hrt4 hroot hCF hCl hrwd hrF hrl2 hSV hL hC hrows hM hst hlo hhi hcg hcl htl hM1 hst2 hm12 h3 h4 hN1 hN2 hNN hkk hDO ok hP hD RO hv hat ht hft hfa ha1 ha hroom
 go_enter Tryz.func33, Tryz.ntmps33
 go_wp2_with fail
 rw [<- HW0.out, <- HW1.out, <- HGE.out, <- HOR.out.2.2.2.2.2.2]
 obtain ⟨WD, hWD⟩ : ∃ WD, WD = W1.drew := ⟨_, rfl⟩
 have HWDE := hid hWD
 have HBD : Hid (Below w.heap.size w WD) := by unfold Hid; rw [hWD]; exact HB1.out.drew
 have HSD : Hid (WD.heap[G]? = some (.cells #[.pointer (some ⟨b, 0, none⟩), .pointer (some ⟨d, 0, none⟩), .int .i64 (hi : Int), .int .i64 (lo : Int)] 87 (0, 0))) := by unfold Hid; rw [hWD]; exact HS1.out
 have HOD : Hid (WD.rowIs O 33 6 (sx (.slice none 0 0) (.slice none 0 0) (.slice none 0 0) (.slice none 0 0) (.slice none 0 0) (.slice none 0 0))) := by unfold Hid; rw [hWD]; exact HO1.out
 have HB0D : Hid (Below W0.heap.size W0 WD) := by unfold Hid; rw [hWD]; exact HB01.out.drew
 clear hWD
 refine wp_region_held_drew (S := fun W => W.cell? ⟨G, 0, none⟩ = some (.pointer (some ⟨b, 0, none⟩)) /\ W.cell? ⟨G, 1, none⟩ = some (.pointer (some ⟨d, 0, none⟩)) /\ W.cell? ⟨G, 2, none⟩ = some (.int .i64 (hi : Int)) /\ W.cell? ⟨G, 3, none⟩ = some (.int .i64 (lo : Int))) (by kernel_rfl) (by rw [<- HWDE.out]; exact HGC.out _ HSD.out) (fun hHeld => ?_)
 rw [<- HWDE.out] at hHeld ⊢
 refine wpAnyH_takeU (i := 0) (v := .agg #[.pointer (some ⟨b, 0, none⟩), .pointer (some ⟨d, 0, none⟩), .int .i64 (hi : Int), .int .i64 (lo : Int)]) rfl (by kernel_rfl) (by kernel_rfl) (by kernel_rfl) (fun _ _ _ h => h) (by rfl) (fun W hC => by (obtain ⟨x0, x1, x2, x3⟩ := hC); go_simp) hHeld ?_
 simp only [Act.put, List.setIfInBounds_toArray, List.set_cons_zero, List.set_cons_succ]
 refine wpAnyH_takeU (i := 1) (v := .slice (some ⟨ap, o, none⟩) L cT) rfl (by kernel_rfl) (by kernel_rfl) (by kernel_rfl) (fun _ _ _ h => h) (by rfl) (fun W hC => by go_simp) hHeld ?_
 simp only [Act.put, List.setIfInBounds_toArray, List.set_cons_zero, List.set_cons_succ]
 refine wpAnyH_takeU (i := 3) (v := .agg #[.pointer (some ⟨b, 0, none⟩), .pointer (some ⟨d, 0, none⟩), .int .i64 (hi : Int), .int .i64 (lo : Int)]) rfl (by kernel_rfl) (by kernel_rfl) (by kernel_rfl) (fun _ _ _ h => h) (by rfl) (fun W hC => by (obtain ⟨x0, x1, x2, x3⟩ := hC); go_simp) hHeld ?_
 simp only [Act.put, List.setIfInBounds_toArray, List.set_cons_zero, List.set_cons_succ]
 refine wpAnyH_takeU (i := 4) (v := .slice (some ⟨ap, o, none⟩) L cT) rfl (by kernel_rfl) (by kernel_rfl) (by kernel_rfl) (fun _ _ _ h => h) (by rfl) (fun W hC => by go_simp) hHeld ?_
 simp only [Act.put, List.setIfInBounds_toArray, List.set_cons_zero, List.set_cons_succ]
 refine wpAnyH_ready (rs := [2]) (by kernel_rfl) (by simp) ?_
 refine AllReadyH.consU rfl (fun K' hK' => ?_) AllReadyH.nil
 go_simp
 refine (HRO.out WD (gb_below HBD.out)).mono ?_
 rintro e w3 ⟨rv, rfl, ho3, hb3⟩
 have HB3 : Hid (Below w.heap.size w w3) := HBD.out.trans (hb3.mono HBD.out.size)
 have HG3 := hid ((hb3.block G (Array.getElem?_eq_some_iff.1 HSD.out).1).trans HSD.out)
 have HO3 := hid ho3
 have HBR3 := hid hb3
 clear ho3 hb3
 refine hK'.out _ _ (HGC.out _ HG3.out) (fun hHeld => ?_)
 clear hK' K'
 refine wpAnyH_ready (rs := [5]) (by kernel_rfl) (by simp) ?_
 refine AllReadyH.consU rfl (fun K' hK' => ?_) AllReadyH.nil
 go_simp
 refine (HCO.out w3 (gb_below HB3.out)).mono ?_
 rintro e w4 ⟨cv, rfl, hc4, hb4⟩
 have HB4 : Hid (Below w.heap.size w w4) := HB3.out.trans (hb4.mono HB3.out.size)
 have HG4 := hid ((hb4.block G (Array.getElem?_eq_some_iff.1 HG3.out).1).trans HG3.out)
 have HC4 := hid hc4
 have HBR4 := hid hb4
 clear hc4 hb4
 refine hK'.out _ _ (HGC.out _ HG4.out) (fun hHeld => ?_)
 clear hK' K'
 refine wpAnyH_takeU (i := 6) (v := rv) rfl (by kernel_rfl) (by kernel_rfl) (by kernel_rfl) (fun _ _ _ h => h) (by rfl) (fun W hC => by go_simp) hHeld ?_
 simp only [Act.put, List.setIfInBounds_toArray, List.set_cons_zero, List.set_cons_succ]
 refine wpAnyH_takeU (i := 7) (v := cv) rfl (by kernel_rfl) (by kernel_rfl) (by kernel_rfl) (fun _ _ _ h => h) (by rfl) (fun W hC => by go_simp) hHeld ?_
 simp only [Act.put, List.setIfInBounds_toArray, List.set_cons_zero, List.set_cons_succ]
 refine wpAnyH_done (by kernel_rfl) ?_ _
 have HI4 : Hid (OpP N0 q n c O G (.cells #[.pointer (some ⟨b, 0, none⟩), .pointer (some ⟨d, 0, none⟩), .int .i64 (hi : Int), .int .i64 (lo : Int)] 87 (0, 0)) W0 w4 D rv cv M ((List.range M).map (chv ap o st)) C (sx (.slice none 0 0) (.slice none 0 0) (.slice none 0 0) (.slice none 0 0) (.slice none 0 0) (.slice none 0 0)) []) := by
  have e4 : Below WD.heap.size WD w4 := HBR3.out.trans (HBR4.out.mono HBR3.out.size)
  have e0 : Below W0.heap.size W0 w4 := HB0D.out.trans (e4.mono HB0D.out.size)
  exact ⟨gb_below e0, HPC.out.below HB4.out, HG4.out, World.ownsRow.mono (own_step HO3.out HBR4.out) HB0D.out.size, HC4.out.mono (Nat.le_trans HB0D.out.size HBR3.out.size), World.rowIs.of_block HOD.out (e4.block O (World.rowIs.lt HOD.out)), (alS (isS _ _ _) (isS _ _ _) (isS _ _ _) (isS _ _ _) (isS _ _ _) (isS _ _ _)), fun p hp => by cases hp⟩
 have HWG : Hid (∀ W, W0.grownBy W (some c) -> w.grownBy W (some c)) := fun W hW => gb_trans (gb_below HB0.out) hW
 obtain ⟨ar, cr, rfl, hlr⟩ := HRV.out w4 rv W0.heap.size (HWG.out _ HI4.out.g) HI4.out.rw
 have HRL : Hid (∀ W, w.grownBy W (some c) -> W.ownsRow W0.heap.size 22 1 (.slice ar M cr) M ((List.range M).map (chv ap o st)) -> LstR W.heap.size W ar cr rows) := fun W k1 k2 => by
  obtain ⟨_, _, e1, h⟩ := HRV.out W _ W0.heap.size k1 k2
  cases e1
  exact h
 obtain ⟨ac, cc, ecv, hlc⟩ := HI4.out.cl.lst
 rw [HQ.out.1] at ecv
 subst ecv
 have HRX := hid (HRT.out w4 cc ac (HWG.out _ HI4.out.g) hlc)
 clear hlr hlc HRV HRO HCO HB1 HSD HOD HB0D HB3 HG3 HO3 HBR3 HB4 HG4 HC4 HBR4 HBD HWDE HS1 HO1 HPC
 go_wp2_with fail
 refine HRX.out.mono ?_
 rintro e w5 ⟨a5, c5, rfl, hs5, hb5⟩
 have HI5 := hid ((HI4.out.below hb5).add hs5)
 have y1 := HI5.out.o.frozen 0
 have y2 : w5.cell? ⟨O, 0, none⟩ = some (.slice none 0 0) := HI5.out.o.cell (i := 0) (by omega)
 obtain ⟨W6, hW6⟩ : ∃ W6, W6 = w5.setCell ⟨O, 0, none⟩ (.slice a5 4 c5) := ⟨_, rfl⟩
 have HI6 : Hid (OpP N0 q n c O G (.cells #[.pointer (some ⟨b, 0, none⟩), .pointer (some ⟨d, 0, none⟩), .int .i64 (hi : Int), .int .i64 (lo : Int)] 87 (0, 0)) W0 W6 D (.slice ar M cr) (.slice ac N cc) M ((List.range M).map (chv ap o st)) C (sx (.slice a5 4 c5) (.slice none 0 0) (.slice none 0 0) (.slice none 0 0) (.slice none 0 0) (.slice none 0 0)) [(.slice a5 4 c5, root)]) := by
  rw [hW6]
  exact HI5.out.set HOR.out.2.2.2.2.2.1 HOR.out.2.2.2.2.1 HOR.out.2.2.1 (sx_set0 HI5.out.o _) (alS (isS _ _ _) (isS _ _ _) (isS _ _ _) (isS _ _ _) (isS _ _ _) (isS _ _ _))
 have HW6 := hid hW6
 have HSS : Hid (∀ (W : World) (D' : List Int) (F' : Nat -> Value) (Ls' : List (Value × List Int)), OpP N0 q n c O G (.cells #[.pointer (some ⟨b, 0, none⟩), .pointer (some ⟨d, 0, none⟩), .int .i64 (hi : Int), .int .i64 (lo : Int)] 87 (0, 0)) W0 W D' (.slice ar M cr) (.slice ac N cc) M ((List.range M).map (chv ap o st)) C F' Ls' -> F' 0 = .slice a5 4 c5 -> (W.cell? ⟨G, 0, none⟩ = some (.pointer (some ⟨b, 0, none⟩)) /\ W.cell? ⟨G, 1, none⟩ = some (.pointer (some ⟨d, 0, none⟩)) /\ W.cell? ⟨G, 2, none⟩ = some (.int .i64 (hi : Int)) /\ W.cell? ⟨G, 3, none⟩ = some (.int .i64 (lo : Int))) /\ W.cell? ⟨O, 0, none⟩ = some (.slice a5 4 c5)) := fun W D' F' Ls' h e => ⟨HGC.out W h.bx, by have := h.o.cell (i := 0) (by omega); rw [e] at this; exact this⟩
 obtain ⟨W7, hW7⟩ : ∃ W7, W7 = W6.drew := ⟨_, rfl⟩
 have HI7 : Hid (OpP N0 q n c O G (.cells #[.pointer (some ⟨b, 0, none⟩), .pointer (some ⟨d, 0, none⟩), .int .i64 (hi : Int), .int .i64 (lo : Int)] 87 (0, 0)) W0 W7 D (.slice ar M cr) (.slice ac N cc) M ((List.range M).map (chv ap o st)) C (sx (.slice a5 4 c5) (.slice none 0 0) (.slice none 0 0) (.slice none 0 0) (.slice none 0 0) (.slice none 0 0)) [(.slice a5 4 c5, root)]) := by
  rw [hW7]
  exact HI6.out.below (Below.refl _ _).drew
 have HW7E := hid hW7
 clear hs5 hb5 hW6 hW7 HRX HI4 HI5 HRT
 go_wp2_with fail
 rw [<- HW6.out]
 clear y1 y2 HW6 HI6
 refine wp_region_held_drew (S := fun W => (W.cell? ⟨G, 0, none⟩ = some (.pointer (some ⟨b, 0, none⟩)) /\ W.cell? ⟨G, 1, none⟩ = some (.pointer (some ⟨d, 0, none⟩)) /\ W.cell? ⟨G, 2, none⟩ = some (.int .i64 (hi : Int)) /\ W.cell? ⟨G, 3, none⟩ = some (.int .i64 (lo : Int))) /\ W.cell? ⟨O, 0, none⟩ = some (.slice a5 4 c5)) (by kernel_rfl) (by rw [<- HW7E.out]; exact HSS.out _ _ _ _ HI7.out rfl) (fun hHeld => ?_)
 rw [<- HW7E.out] at hHeld ⊢
 refine wpAnyH_takeU (i := 0) (v := .slice ar M cr) rfl (by kernel_rfl) (by kernel_rfl) (by kernel_rfl) (fun _ _ _ h => h) (by rfl) (fun W hC => by go_simp) hHeld ?_
 simp only [Act.put, List.setIfInBounds_toArray, List.set_cons_zero, List.set_cons_succ]
 refine wpAnyH_takeU (i := 1) (v := .pointer (some ⟨G, 0, none⟩)) rfl (by kernel_rfl) (by kernel_rfl) (by kernel_rfl) (fun _ _ _ h => h) (by rfl) (fun W hC => by go_simp) hHeld ?_
 simp only [Act.put, List.setIfInBounds_toArray, List.set_cons_zero, List.set_cons_succ]
 refine wpAnyH_takeU (i := 2) (v := .pointer (some ⟨b, 0, none⟩)) rfl (by kernel_rfl) (by kernel_rfl) (by kernel_rfl) (fun _ _ _ h => h) (by rfl) (fun W hC => by (obtain ⟨⟨x0, x1, x2, x3⟩, x4⟩ := hC); go_simp) hHeld ?_
 simp only [Act.put, List.setIfInBounds_toArray, List.set_cons_zero, List.set_cons_succ]
 refine wpAnyH_takeU (i := 3) (v := .pointer (some ⟨c, 0, none⟩)) rfl (by kernel_rfl) (by kernel_rfl) (by kernel_rfl) (fun _ _ _ h => h) (by rfl) (fun W hC => by go_simp) hHeld ?_
 simp only [Act.put, List.setIfInBounds_toArray, List.set_cons_zero, List.set_cons_succ]
 refine wpAnyH_takeU (i := 4) (v := .pointer (some ⟨O, 0, none⟩)) rfl (by kernel_rfl) (by kernel_rfl) (by kernel_rfl) (fun _ _ _ h => h) (by rfl) (fun W hC => by go_simp) hHeld ?_
 simp only [Act.put, List.setIfInBounds_toArray, List.set_cons_zero, List.set_cons_succ]
 refine wpAnyH_takeU (i := 5) (v := .slice a5 4 c5) rfl (by kernel_rfl) (by kernel_rfl) (by kernel_rfl) (fun _ _ _ h => h) (by rfl) (fun W hC => by (obtain ⟨⟨x0, x1, x2, x3⟩, x4⟩ := hC); go_simp) hHeld ?_
 simp only [Act.put, List.setIfInBounds_toArray, List.set_cons_zero, List.set_cons_succ]
 refine wpAnyH_takeU (i := 6) (v := .slice a4 v c4) rfl (by kernel_rfl) (by kernel_rfl) (by kernel_rfl) (fun _ _ _ h => h) (by rfl) (fun W hC => by go_simp) hHeld ?_
 simp only [Act.put, List.setIfInBounds_toArray, List.set_cons_zero, List.set_cons_succ]
 refine wpAnyH_ready (rs := [7]) (by kernel_rfl) (by simp) ?_
 refine AllReadyH.consU rfl (fun K' hK' => ?_) AllReadyH.nil
 go_simp
 refine (HDP.out W7 a5 c5 (HWG.out _ HI7.out.g) HI7.out.ch (HI7.out.ls (.slice a5 4 c5, root) (by simp))).mono ?_
 rintro e w8 ⟨rfl, hc8, hg8⟩
 have HI8 := hid (HI7.out.step hg8 hc8 HOR.out.1 HOR.out.2.1)
 clear hc8 hg8
 refine hK'.out _ _ (HSS.out _ _ _ _ HI8.out rfl) (fun hHeld => ?_)
 clear hK' K'
 refine wpAnyH_ready (rs := [8]) (by kernel_rfl) (by simp) ?_
 refine AllReadyH.consU rfl (fun K' hK' => ?_) AllReadyH.nil
 go_simp
 refine (powers_any b r0 w8).mono ?_
 rintro e w9 ⟨B0, B1, rfl, kq0, kq1, kc0, kc1, hb9, kl0, kl1⟩
 have HI9 := hid (HI8.out.below hb9)
 have HC9 : Hid (w9.cell? ⟨B0, 0, none⟩ = some (.pointer (some ⟨b, 0, none⟩)) /\ w9.cell? ⟨B1, 0, none⟩ = some (.int .i64 r0)) := ⟨kc0, kc1⟩
 have HLR9 := hid (HRL.out w9 (HWG.out _ HI9.out.g) HI9.out.rw)
 clear kq0 kq1 kc0 kc1 hb9 kl0 kl1
 refine hK'.out _ _ (HSS.out _ _ _ _ HI9.out rfl) (fun hHeld => ?_)
 clear hK' K'
 refine wpAnyH_ready (rs := [9]) (by kernel_rfl) (by simp) ?_
 refine AllReadyH.consU rfl (fun K' hK' => ?_) AllReadyH.nil
 go_simp
 refine (HAP.out w9 cr B0 B1 ar (HWG.out _ HI9.out.g) HC9.out.1 HC9.out.2 HLR9.out).mono ?_
 rintro e w10 ⟨rfl, hs10, hb10⟩
 obtain ⟨g1, hg1⟩ : ∃ g1, g1 = w9.heap.size := ⟨_, rfl⟩
 rw [<- hg1] at hs10 ⊢
 have HI10 := hid ((HI9.out.below hb10).add hs10)
 clear hs10 hb10 hg1
 refine hK'.out _ _ (HSS.out _ _ _ _ HI10.out rfl) (fun hHeld => ?_)
 clear hK' K'
 refine wpAnyH_takeU (i := 10) (v := .pointer (some ⟨O, 1, none⟩)) rfl (by kernel_rfl) (by kernel_rfl) (by kernel_rfl) (fun _ _ _ h => h) (by rfl) (fun W hC => by go_simp) hHeld ?_
 simp only [Act.put, List.setIfInBounds_toArray, List.set_cons_zero, List.set_cons_succ]
 refine wpAnyH_ready (rs := [11]) (by kernel_rfl) (by simp) ?_
 refine AllReadyH.consU rfl (fun K' hK' => ?_) AllReadyH.nil
 have y1 := HI10.out.o.frozen 1
 have y2 : w10.cell? ⟨O, 1, none⟩ = some (.slice none 0 0) := HI10.out.o.cell (i := 1) (by omega)
 have HI11 : Hid (OpP N0 q n c O G (.cells #[.pointer (some ⟨b, 0, none⟩), .pointer (some ⟨d, 0, none⟩), .int .i64 (hi : Int), .int .i64 (lo : Int)] 87 (0, 0)) W0 (w10.setCell ⟨O, 1, none⟩ (.slice (some ⟨g1, 0, none⟩) st st)) D1 (.slice ar M cr) (.slice ac N cc) M ((List.range M).map (chv ap o st)) C (sx (.slice a5 4 c5) (.slice (some ⟨g1, 0, none⟩) st st) (.slice none 0 0) (.slice none 0 0) (.slice none 0 0) (.slice none 0 0)) [(.slice (some ⟨g1, 0, none⟩) st st, mixed), (.slice a5 4 c5, root)]) := HI10.out.set HOR.out.2.2.2.2.2.1 HOR.out.2.2.2.2.1 HOR.out.2.2.1 (sx_set1 HI10.out.o _) (alS (isS _ _ _) (isS _ _ _) (isS _ _ _) (isS _ _ _) (isS _ _ _) (isS _ _ _))
 go_simp
 refine hK'.out _ _ (HSS.out _ _ _ _ HI11.out rfl) (fun hHeld => ?_)
 clear hK' K'
 refine wpAnyH_done (by kernel_rfl) ?_ _
 generalize w10.setCell ⟨O, 1, none⟩ (.slice (some ⟨g1, 0, none⟩) st st) = W11 at *
 obtain ⟨W12, hW12⟩ : ∃ W12, W12 = W11.drew := ⟨_, rfl⟩
 have HI12 : Hid (OpP N0 q n c O G (.cells #[.pointer (some ⟨b, 0, none⟩), .pointer (some ⟨d, 0, none⟩), .int .i64 (hi : Int), .int .i64 (lo : Int)] 87 (0, 0)) W0 W12 D1 (.slice ar M cr) (.slice ac N cc) M ((List.range M).map (chv ap o st)) C (sx (.slice a5 4 c5) (.slice (some ⟨g1, 0, none⟩) st st) (.slice none 0 0) (.slice none 0 0) (.slice none 0 0) (.slice none 0 0)) [(.slice (some ⟨g1, 0, none⟩) st st, mixed), (.slice a5 4 c5, root)]) := by
  rw [hW12]
  exact HI11.out.below (Below.refl _ _).drew
 have HW12E := hid hW12
 clear hW12 HI7 HI8 HI9 HI10 HC9 HLR9 HW7E HSS HDP HAP y1 y2 hHeld
 go_wp2_with fail
 refine wp_region_held_drew (S := fun W => W.cell? ⟨G, 0, none⟩ = some (.pointer (some ⟨b, 0, none⟩)) /\ W.cell? ⟨G, 1, none⟩ = some (.pointer (some ⟨d, 0, none⟩)) /\ W.cell? ⟨G, 2, none⟩ = some (.int .i64 (hi : Int)) /\ W.cell? ⟨G, 3, none⟩ = some (.int .i64 (lo : Int))) (by kernel_rfl) (by rw [<- HW12E.out]; exact HGC.out _ HI12.out.bx) (fun hHeld => ?_)
 rw [<- HW12E.out] at hHeld ⊢
 refine wpAnyH_takeU (i := 0) (v := .slice ar M cr) rfl (by kernel_rfl) (by kernel_rfl) (by kernel_rfl) (fun _ _ _ h => h) (by rfl) (fun W hC => by go_simp) hHeld ?_
 simp only [Act.put, List.setIfInBounds_toArray, List.set_cons_zero, List.set_cons_succ]
 refine wpAnyH_takeU (i := 1) (v := .agg #[.pointer (some ⟨b, 0, none⟩), .pointer (some ⟨d, 0, none⟩), .int .i64 (hi : Int), .int .i64 (lo : Int)]) rfl (by kernel_rfl) (by kernel_rfl) (by kernel_rfl) (fun _ _ _ h => h) (by rfl) (fun W hC => by (obtain ⟨x0, x1, x2, x3⟩ := hC); go_simp) hHeld ?_
 simp only [Act.put, List.setIfInBounds_toArray, List.set_cons_zero, List.set_cons_succ]
 refine wpAnyH_takeU (i := 2) (v := .slice a4 v c4) rfl (by kernel_rfl) (by kernel_rfl) (by kernel_rfl) (fun _ _ _ h => h) (by rfl) (fun W hC => by go_simp) hHeld ?_
 simp only [Act.put, List.setIfInBounds_toArray, List.set_cons_zero, List.set_cons_succ]
 refine wpAnyH_takeU (i := 3) (v := .pointer (some ⟨G, 2, none⟩)) rfl (by kernel_rfl) (by kernel_rfl) (by kernel_rfl) (fun _ _ _ h => h) (by rfl) (fun W hC => by go_simp) hHeld ?_
 simp only [Act.put, List.setIfInBounds_toArray, List.set_cons_zero, List.set_cons_succ]
 refine wpAnyH_takeU (i := 4) (v := .int .i64 (hi : Int)) rfl (by kernel_rfl) (by kernel_rfl) (by kernel_rfl) (fun _ _ _ h => h) (by rfl) (fun W hC => by (obtain ⟨x0, x1, x2, x3⟩ := hC); go_simp) hHeld ?_
 simp only [Act.put, List.setIfInBounds_toArray, List.set_cons_zero, List.set_cons_succ]
 refine wpAnyH_takeU (i := 5) (v := .slice a4 hi c4) rfl (by kernel_rfl) (by kernel_rfl) (by kernel_rfl) (fun _ _ _ h => h) (by rfl) (fun W hC => by go_simp) hHeld ?_
 simp only [Act.put, List.setIfInBounds_toArray, List.set_cons_zero, List.set_cons_succ]
 refine wpAnyH_ready (rs := [6]) (by kernel_rfl) (by simp) ?_
 refine AllReadyH.consU rfl (fun K' hK' => ?_) AllReadyH.nil
 go_simp
 refine (HXT.out W12 (HWG.out _ HI12.out.g)).mono ?_
 rintro e w13 ⟨E0, E1, rfl, hx13, hb13⟩
 have HI13 := hid (HI12.out.below hb13)
 have HX13 := hid hx13
 have HLR13 := hid (HRL.out w13 (HWG.out _ HI13.out.g) HI13.out.rw)
 clear hx13 hb13
 refine hK'.out _ _ (HGC.out _ HI13.out.bx) (fun hHeld => ?_)
 clear hK' K'
 refine wpAnyH_ready (rs := [7]) (by kernel_rfl) (by simp) ?_
 refine AllReadyH.consU rfl (fun K' hK' => ?_) AllReadyH.nil
 go_simp
 refine (HAE.out w13 cr W12.heap.size E0 E1 ar (HWG.out _ HI13.out.g) HX13.out HLR13.out).mono ?_
 rintro e w14 ⟨rfl, hs14, hb14⟩
 obtain ⟨g2, hg2⟩ : ∃ g2, g2 = w13.heap.size := ⟨_, rfl⟩
 rw [<- hg2] at hs14 ⊢
 have HI14 := hid ((HI13.out.below hb14).add hs14)
 clear hs14 hb14 hg2
 refine hK'.out _ _ (HGC.out _ HI14.out.bx) (fun hHeld => ?_)
 clear hK' K'
 refine wpAnyH_takeU (i := 8) (v := .pointer (some ⟨O, 2, none⟩)) rfl (by kernel_rfl) (by kernel_rfl) (by kernel_rfl) (fun _ _ _ h => h) (by rfl) (fun W hC => by go_simp) hHeld ?_
 simp only [Act.put, List.setIfInBounds_toArray, List.set_cons_zero, List.set_cons_succ]
 refine wpAnyH_ready (rs := [9]) (by kernel_rfl) (by simp) ?_
 refine AllReadyH.consU rfl (fun K' hK' => ?_) AllReadyH.nil
 have y1 := HI14.out.o.frozen 2
 have y2 : w14.cell? ⟨O, 2, none⟩ = some (.slice none 0 0) := HI14.out.o.cell (i := 2) (by omega)
 have HI15 : Hid (OpP N0 q n c O G (.cells #[.pointer (some ⟨b, 0, none⟩), .pointer (some ⟨d, 0, none⟩), .int .i64 (hi : Int), .int .i64 (lo : Int)] 87 (0, 0)) W0 (w14.setCell ⟨O, 2, none⟩ (.slice (some ⟨g2, 0, none⟩) st st)) D1 (.slice ar M cr) (.slice ac N cc) M ((List.range M).map (chv ap o st)) C (sx (.slice a5 4 c5) (.slice (some ⟨g1, 0, none⟩) st st) (.slice (some ⟨g2, 0, none⟩) st st) (.slice none 0 0) (.slice none 0 0) (.slice none 0 0)) [(.slice (some ⟨g2, 0, none⟩) st st, point), (.slice (some ⟨g1, 0, none⟩) st st, mixed), (.slice a5 4 c5, root)]) := HI14.out.set HOR.out.2.2.2.2.2.1 HOR.out.2.2.2.2.1 HOR.out.2.2.1 (sx_set2 HI14.out.o _) (alS (isS _ _ _) (isS _ _ _) (isS _ _ _) (isS _ _ _) (isS _ _ _) (isS _ _ _))
 go_simp
 refine hK'.out _ _ (HGC.out _ HI15.out.bx) (fun hHeld => ?_)
 clear hK' K'
 refine wpAnyH_done (by kernel_rfl) ?_ _
 generalize w14.setCell ⟨O, 2, none⟩ (.slice (some ⟨g2, 0, none⟩) st st) = W16 at *
 clear HI12 HI13 HI14 HX13 HLR13 HW12E HXT HAE y1 y2 hHeld hiv2 hi0 hic
 have o0 := HI15.out.o
 have x0 : W16.cell? ⟨O, 0, none⟩ = some (.slice a5 4 c5) := o0.cell (i := 0) (by omega)
 have x1 : W16.cell? ⟨O, 1, none⟩ = some (.slice (some ⟨g1, 0, none⟩) st st) := o0.cell (i := 1) (by omega)
 have x2 : W16.cell? ⟨O, 2, none⟩ = some (.slice (some ⟨g2, 0, none⟩) st st) := o0.cell (i := 2) (by omega)
 have x3 : W16.cell? ⟨O, 3, none⟩ = some (.slice none 0 0) := o0.cell (i := 3) (by omega)
 have x4 : W16.cell? ⟨O, 4, none⟩ = some (.slice none 0 0) := o0.cell (i := 4) (by omega)
 have x5 : W16.cell? ⟨O, 5, none⟩ = some (.slice none 0 0) := o0.cell (i := 5) (by omega)
 obtain ⟨z0, z1, z2, z3⟩ := HGC.out W16 HI15.out.bx
 have HDX := hid (HDL.out W16 (some ⟨g1, 0, none⟩) (some ⟨g2, 0, none⟩) st st (.slice a5 4 c5) (.slice none 0 0) (.slice none 0 0) (.slice none 0 0) (HWG.out _ HI15.out.g) HI15.out.ch (HI15.out.ls (.slice (some ⟨g1, 0, none⟩) st st, mixed) (by simp)) (HI15.out.ls (.slice (some ⟨g2, 0, none⟩) st st, point) (by simp)))
 clear o0
 go_wp2_with fail
 refine HDX.out.mono ?_
 rintro e w18 ⟨vq, rfl, hoq, hc18, hg18⟩
 have hsq := slr_of_owns hoq
 obtain ⟨aq, cq, rfl, hlq⟩ := lst_of_owns hoq
 have HI18 := hid ((HI15.out.step hg18 hc18 HOR.out.1 HOR.out.2.1).add hsq)
 have HOX := hid (HTO.out w18 cc cq ac aq (HWG.out _ HI18.out.g) (by
  obtain ⟨_, _, e1, h⟩ := HI18.out.cl.lst
  rw [HQ.out.1] at e1
  cases e1
  exact h) hlq.row)
 clear hc18 hg18 hoq hsq hlq HDX HDL HI15 HTO z0 z1 z2 z3 x0 x1 x2 x3 x4 x5
 go_wp2_with fail
 refine HOX.out.mono ?_
 rintro e w19 ⟨v3, v4, v5, rfl, hs3, hs4, hs5, hb19⟩
 obtain ⟨a3, c3, e3, _⟩ := hs3.lst
 subst e3
 obtain ⟨a4', c4', e4, _⟩ := hs4.lst
 subst e4
 obtain ⟨a5', c5', e5, _⟩ := hs5.lst
 subst e5
 have HI19 := hid ((HI18.out.below hb19).add hs3)
 have HS45 : Hid (OwnR w18.heap.size w19 (.slice a4' S4.length c4') S4 /\ OwnR w18.heap.size w19 (.slice a5' S5.length c5') S5) := ⟨hs4, hs5⟩
 have y1 := HI19.out.o.frozen 3
 have y2 := HI19.out.o.frozen 4
 have y3 := HI19.out.o.frozen 5
 have y4 : w19.cell? ⟨O, 3, none⟩ = some (.slice none 0 0) := HI19.out.o.cell (i := 3) (by omega)
 have y5 : w19.cell? ⟨O, 4, none⟩ = some (.slice none 0 0) := HI19.out.o.cell (i := 4) (by omega)
 have y6 : w19.cell? ⟨O, 5, none⟩ = some (.slice none 0 0) := HI19.out.o.cell (i := 5) (by omega)
 clear hs3 hs4 hs5 hb19 HOX HI18
 obtain ⟨W20, hW20⟩ : ∃ W20, W20 = ((w19.setCell ⟨O, 3, none⟩ (.slice a3 pl.length c3)).setCell ⟨O, 4, none⟩ (.slice a4' S4.length c4')).setCell ⟨O, 5, none⟩ (.slice a5' S5.length c5') := ⟨_, rfl⟩
 have HI20 : Hid (OpP N0 q n c O G (.cells #[.pointer (some ⟨b, 0, none⟩), .pointer (some ⟨d, 0, none⟩), .int .i64 (hi : Int), .int .i64 (lo : Int)] 87 (0, 0)) W0 W20 D3 (.slice ar M cr) (.slice ac N cc) M ((List.range M).map (chv ap o st)) C (sx (.slice a5 4 c5) (.slice (some ⟨g1, 0, none⟩) st st) (.slice (some ⟨g2, 0, none⟩) st st) (.slice a3 pl.length c3) (.slice a4' S4.length c4') (.slice a5' S5.length c5')) [(.slice a3 pl.length c3, pl), (.slice aq pl.length cq, pl), (.slice (some ⟨g2, 0, none⟩) st st, point), (.slice (some ⟨g1, 0, none⟩) st st, mixed), (.slice a5 4 c5, root)] /\ OwnR 0 W20 (.slice a4' S4.length c4') S4 /\ OwnR 0 W20 (.slice a5' S5.length c5') S5) := by
  have f0 := HI19.out.al
  have o0 := HI19.out.o
  have o1 := sx_set3 o0 (.slice a3 pl.length c3)
  have f1 : AlS (sx (.slice a5 4 c5) (.slice (some ⟨g1, 0, none⟩) st st) (.slice (some ⟨g2, 0, none⟩) st st) (.slice a3 pl.length c3) (.slice none 0 0) (.slice none 0 0)) := (alS (isS _ _ _) (isS _ _ _) (isS _ _ _) (isS _ _ _) (isS _ _ _) (isS _ _ _))
  have o2 := sx_set4 o1 (.slice a4' S4.length c4')
  have f2 : AlS (sx (.slice a5 4 c5) (.slice (some ⟨g1, 0, none⟩) st st) (.slice (some ⟨g2, 0, none⟩) st st) (.slice a3 pl.length c3) (.slice a4' S4.length c4') (.slice none 0 0)) := (alS (isS _ _ _) (isS _ _ _) (isS _ _ _) (isS _ _ _) (isS _ _ _) (isS _ _ _))
  have o3 := sx_set5 o2 (.slice a5' S5.length c5')
  have i1 := HI19.out.set HOR.out.2.2.2.2.2.1 HOR.out.2.2.2.2.1 HOR.out.2.2.1 o1 f1
  have i2 := i1.set HOR.out.2.2.2.2.2.1 HOR.out.2.2.2.2.1 HOR.out.2.2.1 o2 f2
  have i3 := i2.set HOR.out.2.2.2.2.2.1 HOR.out.2.2.2.2.1 HOR.out.2.2.1 o3 (alS (isS _ _ _) (isS _ _ _) (isS _ _ _) (isS _ _ _) (isS _ _ _) (isS _ _ _))
  rw [hW20]
  refine ⟨i3, ?_, ?_⟩
  ·exact (((HS45.out.1.setP o0 f0).setP o1 f1).setP o2 f2).mono (Nat.zero_le _)
  ·exact (((HS45.out.2.setP o0 f0).setP o1 f1).setP o2 f2).mono (Nat.zero_le _)
 have HW20 := hid hW20
 have o0 := HI20.out.1.o
 have x0 : W20.cell? ⟨O, 0, none⟩ = some (.slice a5 4 c5) := o0.cell (i := 0) (by omega)
 have x1 : W20.cell? ⟨O, 1, none⟩ = some (.slice (some ⟨g1, 0, none⟩) st st) := o0.cell (i := 1) (by omega)
 have x2 : W20.cell? ⟨O, 2, none⟩ = some (.slice (some ⟨g2, 0, none⟩) st st) := o0.cell (i := 2) (by omega)
 have x3 : W20.cell? ⟨O, 3, none⟩ = some (.slice a3 pl.length c3) := o0.cell (i := 3) (by omega)
 have x4 : W20.cell? ⟨O, 4, none⟩ = some (.slice a4' S4.length c4') := o0.cell (i := 4) (by omega)
 have x5 : W20.cell? ⟨O, 5, none⟩ = some (.slice a5' S5.length c5') := o0.cell (i := 5) (by omega)
 have f0 := o0.frozen 0
 have f1 := o0.frozen 1
 have f2 := o0.frozen 2
 have f3 := o0.frozen 3
 have f4 := o0.frozen 4
 have f5 := o0.frozen 5
 rw [hW20] at x0 x1 x2 x3 x4 x5 f0 f1 f2 f3 f4 f5
 clear hW20 o0
 go_wp2_with fail
 rw [<- HW20.out]
 clear x0 x1 x2 x3 x4 x5 f0 f1 f2 f3 f4 f5 y1 y2 y3 y4 y5 y6
 have oo := HI20.out.1.o
 have ff := HI20.out.1.al
 refine bodyPost_ret (results_ct rfl _ _ O 33 _ (0, 0) _ rfl (sx_arr (sx_six oo _ _ _ _ _ _)) Tryz.underlying33 rfl (by kernel_rfl)) rfl ?_
 refine ⟨_, _, _, _, _, _, rfl, ⟨?_, ?_, ?_, ?_, ?_, ?_⟩, ?_, ?_⟩
 ·exact slr_six (HI20.out.1.ls (.slice a5 4 c5, root) (by simp)) oo ff ff
 ·exact slr_six (HI20.out.1.ls (.slice (some ⟨g1, 0, none⟩) st st, mixed) (by simp)) oo ff ff
 ·exact slr_six (HI20.out.1.ls (.slice (some ⟨g2, 0, none⟩) st st, point) (by simp)) oo ff ff
 ·exact slr_six (HI20.out.1.ls (.slice a3 pl.length c3, pl) (by simp)) oo ff ff
 ·exact ownR_six HI20.out.2.1 oo ff ff
 ·exact ownR_six HI20.out.2.2 oo ff ff
 ·exact pch_six HI20.out.1.ch oo HOR.out.2.2.2.2.1
 ·exact gb_six (HWG.out _ HI20.out.1.g) HOR.out.2.2.2.1 _ _ _ _ _ _
end Go.Proofs.YtlhjifpomchnfaaGreatDoor
