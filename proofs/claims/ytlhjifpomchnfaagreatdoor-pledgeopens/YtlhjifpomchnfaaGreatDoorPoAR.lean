
import Derived.Test.YtlhjifpomchnfaaGreatDoorRefs
import Derived.Test.YtlhjifpomchnfaaGreatDoorPoAA
import Derived.Test.YtlhjifpomchnfaaGreatDoorPoAQ
import Derived.Test.YtlhjifpomchnfaaGreatDoorTres
set_option maxRecDepth 1000000
set_option maxHeartbeats 8000000
namespace Go.Proofs.YtlhjifpomchnfaaGreatDoor
open Go.RowKit
def NumL (w : World) (a : Option Addr) (c : Nat) (l : List Int) : Prop := Lst w.heap.size w a c l /\ (0 < l.length -> ∃ g o cs f, a = some ⟨g, o, none⟩ /\ w.heap[g]? = some (.cells cs 3 f))
theorem numL_nil (w : World) : NumL w none 0 [] := ⟨⟨fun _ h => absurd h (Nat.not_lt_zero _), Nat.zero_le _, fun _ => rfl⟩, fun h => absurd h (Nat.lt_irrefl _)⟩
theorem LstD.num {w : World} {g N : Nat} {l : List Int} (h : LstD w g N l) : NumL w (some ⟨g, 0, none⟩) N l := ⟨h.1, fun _ => by obtain ⟨c, f, e⟩ := h.2; exact ⟨g, 0, c, f, rfl, e⟩⟩
theorem NumL.blocks {w w' : World} {a : Option Addr} {c : Nat} {l : List Int} (h : NumL w a c l) (hs : w.heap.size <= w'.heap.size) (e : ∀ (g : Nat) (cs : Array Value) (f : Nat × Nat), w.heap[g]? = some (.cells cs 3 f) -> w'.heap[g]? = w.heap[g]?) : NumL w' a c l := by
 obtain ⟨hl, hn⟩ := h
 refine ⟨⟨fun k hk => ?_, hl.room, hl.nil⟩, fun h0 => ?_⟩
 ·obtain ⟨b, o, rfl, h2, h3⟩ := hl.row k hk
  obtain ⟨g', o', cs, f, e1, hb⟩ := hn (by omega)
  cases e1
  exact ⟨b, o, rfl, by omega, (World.cell?_of_block (w := w) (a := ⟨b, o + k, none⟩) (e b cs f hb)).trans h3⟩
 ·obtain ⟨g, o, cs, f, rfl, hb⟩ := hn h0
  exact ⟨g, o, cs, f, rfl, (e g cs f hb).trans hb⟩
theorem NumL.below {w w' : World} {a : Option Addr} {c : Nat} {l : List Int} (h : NumL w a c l) (e : Below w.heap.size w w') : NumL w' a c l :=
 h.blocks e.size (fun g _ _ hg => e.block g (Array.getElem?_eq_some_iff.1 hg).1)
def RCh (q : Nat) (w : World) (r : Nat) (D : List Int) : Prop := ∃ a c, w.heap[r]? = some (.cells #[.int .i64 q, .slice a D.length c] 52 (0, 0)) /\ NumL w a c D
theorem RCh.lt {q : Nat} {w : World} {r : Nat} {D : List Int} (h : RCh q w r D) : r < w.heap.size := by obtain ⟨_, _, h, _⟩ := h; exact (Array.getElem?_eq_some_iff.1 h).1
theorem RCh.blocks {q : Nat} {w w' : World} {r : Nat} {D : List Int} (h : RCh q w r D) (hs : w.heap.size <= w'.heap.size) (hr : w'.heap[r]? = w.heap[r]?) (e : ∀ (g : Nat) (cs : Array Value) (f : Nat × Nat), w.heap[g]? = some (.cells cs 3 f) -> w'.heap[g]? = w.heap[g]?) : RCh q w' r D := by
 obtain ⟨a, c, h1, h2⟩ := h
 exact ⟨a, c, hr.trans h1, h2.blocks hs e⟩
theorem RCh.below {q : Nat} {w w' : World} {r : Nat} {D : List Int} (h : RCh q w r D) (e : Below w.heap.size w w') : RCh q w' r D :=
 h.blocks e.size (e.block r h.lt) (fun g _ _ hg => e.block g (Array.getElem?_eq_some_iff.1 hg).1)
theorem RCh.other {q : Nat} {w w' : World} {r s : Nat} {D : List Int} (h : RCh q w r D) (e : w.grownBy w' (some s)) (hne : r ≠ s) (hs : ∀ (cs : Array Value) (f : Nat × Nat), w.heap[s]? ≠ some (.cells cs 3 f)) : RCh q w' r D :=
 h.blocks e.size (gb_blk e h.lt hne) (fun g cs f hg => gb_blk e (Array.getElem?_eq_some_iff.1 hg).1 (fun he => hs cs f (by rw [<- he]; exact hg)))
def RCn (q : Nat) (w : World) (r : Nat) (D : List Int) (lo : Nat) : Prop := ∃ g c, w.heap[r]? = some (.cells #[.int .i64 q, .slice (some ⟨g, 0, none⟩) D.length c] 52 (0, 0)) /\ NumL w (some ⟨g, 0, none⟩) c D /\ lo <= g
theorem RCn.rch {q : Nat} {w : World} {r : Nat} {D : List Int} {lo : Nat} (h : RCn q w r D lo) : RCh q w r D := by
 obtain ⟨g, c, h1, h2, _⟩ := h
 exact ⟨_, c, h1, h2⟩
theorem RCn.own {q : Nat} {w w' : World} {r : Nat} {D : List Int} {lo : Nat} {own : Option Nat} (h : RCn q w r D lo) (e : w.grownBy w' own) (hr : some r ≠ own) (ho : ∀ k, own = some k -> k < lo) : RCh q w' r D := by
 obtain ⟨g, c, h1, h2, h3⟩ := h
 have hrl : r < w.heap.size := (Array.getElem?_eq_some_iff.1 h1).1
 refine ⟨some ⟨g, 0, none⟩, c, (e.block r hrl hr).trans h1, ⟨fun k hk => ?_, h2.1.room, h2.1.nil⟩, fun h0 => ?_⟩
 ·obtain ⟨b, o, e1, h4, h5⟩ := h2.1.row k hk
  cases e1
  refine ⟨g, 0, rfl, by have := e.size; omega, ?_⟩
  exact (World.cell?_of_block (w := w) (a := ⟨g, 0 + k, none⟩) (e.block g h4 (fun e2 => by have := ho g e2.symm; omega))).trans h5
 ·obtain ⟨b, o, cs, f, e1, h4⟩ := h2.2 h0
  cases e1
  exact ⟨g, 0, cs, f, rfl, (e.block g (Array.getElem?_eq_some_iff.1 h4).1 (fun e2 => by have := ho g e2.symm; omega)).trans h4⟩
theorem gb_to {g n : Nat} {A B : World} (h : A.grownBy B (some g)) (hn : n <= g) (hs : n <= A.heap.size) : Below n A B := ⟨h.os, h.tape, h.output, h.size, fun k hk => gb_blk h (by omega) (by omega)⟩
theorem duo0 {W : World} {g : Nat} {a b : Value} {t : TypeId} (h : W.heap[g]? = some (.cells #[a, b] t (0, 0))) : W.cell? ⟨g, 0, none⟩ = some a := by simp [World.cell?, h]
theorem duo1 {W : World} {g : Nat} {a b : Value} {t : TypeId} (h : W.heap[g]? = some (.cells #[a, b] t (0, 0))) : W.cell? ⟨g, 1, none⟩ = some b := by simp [World.cell?, h]
theorem duoF {W : World} {g : Nat} {a b : Value} {t : TypeId} (h : W.heap[g]? = some (.cells #[a, b] t (0, 0))) (i : Nat) : W.frozen? ⟨g, i, none⟩ = false := by simp [World.frozen?, h]
theorem duo_put1 {W : World} {g : Nat} {a b : Value} {t : TypeId} (h : W.heap[g]? = some (.cells #[a, b] t (0, 0))) (v : Value) : (W.setCell ⟨g, 1, none⟩ v).heap[g]? = some (.cells #[a, v] t (0, 0)) := by
 simp [World.setCell, Array.getElem?_modify, h]
theorem rstep_new (q n r cap : Nat) (kind : Int) (a : Option Addr) (l D : List Int) (w : World) (h5 : 5 <= q) (h4 : q <= 2147483647) (hpn : Spo.PowIs q n) (hk : 0 <= kind /\ kind <= 9) (hlen : D.length + l.length <= 17592186044000) (hfd : Fits D) (hfl : Fits l) (hr : RCh q w r D) (hl : Lst w.heap.size w a cap l) :
  Calls Tryz.prog 40 #[.pointer (some ⟨r, 0, none⟩), .int .i64 kind, .slice a l.length cap] w fun e w' => e = .returned (.tuple #[]) /\ RCn q w' r (digl q n (kind :: (D ++ l))) w.heap.size /\ w.grownBy w' (some r) := by
 have HPN := hid hpn
 have HF : Hid (Fits (kind :: (D ++ l))) := fits_cons (by omega) (fits_append hfd hfl)
 obtain ⟨ad, cd, hblk, hnl⟩ := hr
 have HBK := hid hblk
 have HLD := hid hnl.1
 have HLL := hid hl
 have hrl : r < w.heap.size := (Array.getElem?_eq_some_iff.1 hblk).1
 clear hpn hfd hfl hl hblk hnl
 have HO := hid (owns_one w kind)
 have HBA : Hid (Below w.heap.size w (w.alloc (.cells #[.int .i64 kind] 3))) := (Below.refl _ _).alloc (Nat.le_refl _) _
 have HB1 := hid ((HBA.out.block _ hrl).trans HBK.out)
 have c1 := duo1 HB1.out
 go_enter Tryz.func40, Tryz.ntmps40
 go_wp2_with (at_builtin; refine wpList_appendL (w.alloc (.cells #[.int .i64 kind] 3)) w.heap.size w.heap.size rfl _ _ rfl _ rfl [kind] D HO.out ad cd rfl (by simp; omega) HBA.out.size (HLD.out.below HBA.out) ?_)
 intro v2 w2 hown2 hb2
 have HB2 : Hid (Below w.heap.size w w2) := HBA.out.trans hb2
 have HO2 : Hid (w2.ownsRow w.heap.size 3 1 v2 (kind :: D).length ((kind :: D).map (Value.int .i64))) := hown2
 have hsz2 := HB2.out.size
 clear hown2 hb2 c1 HB1
 obtain ⟨L2, hL2⟩ := exE (kind :: D)
 have HL2 := hid hL2
 have hl2 : L2.length = D.length + 1 := by rw [hL2]; rfl
 have HL2L := hid hl2
 rw [<- hL2] at HO2
 clear hL2 hl2
 go_wp2_with (at_builtin; refine wpList_appendL w2 w.heap.size w.heap.size rfl _ _ rfl _ rfl L2 l HO2.out a cap rfl (by rw [HL2L.out]; omega) hsz2 (HLL.out.below HB2.out) ?_)
 intro v3 w3 hown3 hb3
 have HB3 : Hid (Below w.heap.size w w3) := HB2.out.trans hb3
 have HL3 : Hid (L2 ++ l = kind :: (D ++ l)) := by unfold Hid; rw [HL2.out]; rfl
 rw [<- List.length_append, <- List.map_append, HL3.out] at hown3
 obtain ⟨a3, c3, hv3, hl3⟩ := lst_of_owns hown3
 subst hv3
 have HH := hid (rhash_dg q n c3 a3 (kind :: (D ++ l)) w3 h5 h4 HPN.out (by simp; omega) HF.out hl3.row)
 have HK3 := hid ((HB3.out.block _ hrl).trans HBK.out)
 have c0 := duo0 HK3.out
 clear hown3 hb3 hl3 HL3
 obtain ⟨lr, hlr⟩ := exE (kind :: (D ++ l))
 rw [<- hlr] at HH ⊢
 have HLR := hid hlr
 clear hlr
 go_wp2_with fail
 refine HH.out.mono ?_
 rintro e w4 ⟨g, N, rfl, h6, h7, h8⟩
 have HB4 : Hid (Below w.heap.size w w4) := HB3.out.trans (h8.mono HB3.out.size)
 have hK4 := (HB4.out.block _ hrl).trans HBK.out
 have c1 := duo1 hK4
 have f1 := duoF hK4 1
 have HK4 := hid hK4
 have HLg := hid h7
 have HG6 : Hid (w.heap.size <= g) := by have := HB3.out.size; unfold Hid; omega
 clear h6 h7 h8 hK4 c0
 go_wp2_with fail
 go_end0
 rw [<- HLR.out]
 have hot : ∀ b, b ≠ r -> (w4.setCell ⟨r, 1, none⟩ (.slice (some ⟨g, 0, none⟩) 4 N)).heap[b]? = w4.heap[b]? := fun b hb => Below.heap_setCell _ _ _ _ hb
 refine ⟨rfl, ⟨g, N, ?_, HLg.out.num.blocks (by simp [World.setCell]) (fun b cs f hb => hot b (fun he => ?_)), HG6.out⟩, gb_setCell (gb_below HB4.out) 1 _⟩
 ·rw [digl_len]
  exact duo_put1 HK4.out _
 ·rw [he, HK4.out] at hb
  simp at hb
theorem rstep_any (q n r cap : Nat) (kind : Int) (a : Option Addr) (l D : List Int) (w : World) (h5 : 5 <= q) (h4 : q <= 2147483647) (hpn : Spo.PowIs q n) (hk : 0 <= kind /\ kind <= 9) (hlen : D.length + l.length <= 17592186044000) (hfd : Fits D) (hfl : Fits l) (hr : RCh q w r D) (hl : Lst w.heap.size w a cap l) :
  Calls Tryz.prog 40 #[.pointer (some ⟨r, 0, none⟩), .int .i64 kind, .slice a l.length cap] w fun e w' => e = .returned (.tuple #[]) /\ RCh q w' r (digl q n (kind :: (D ++ l))) /\ w.grownBy w' (some r) :=
 (rstep_new q n r cap kind a l D w h5 h4 hpn hk hlen hfd hfl hr hl).mono fun _ _ h => ⟨h.1, h.2.1.rch, h.2.2⟩
theorem RCh.not {q : Nat} {w : World} {r : Nat} {D : List Int} (h : RCh q w r D) : ∀ (cs : Array Value) (f : Nat × Nat), w.heap[r]? ≠ some (.cells cs 3 f) := fun cs f e => by
 obtain ⟨_, _, h, _⟩ := h
 rw [h] at e
 simp at e
theorem rbegin_any (q n cap : Nat) (a : Option Addr) (l : List Int) (w : World) (h5 : 5 <= q) (h4 : q <= 2147483647) (hpn : Spo.PowIs q n) (hlen : l.length <= 17592186044000) (hfl : Fits l) (hl : Lst w.heap.size w a cap l) :
  Calls Tryz.prog 13 #[.int .i64 q, .slice a l.length cap] w fun e w' => ∃ r, e = .returned (.pointer (some ⟨r, 0, none⟩)) /\ w.heap.size <= r /\ RCh q w' r (digl q n (2 :: l)) /\ Below w.heap.size w w' := by
 have HBA : Hid (Below w.heap.size w (w.alloc (.cells #[.int .i64 q, .slice none 0 0] 52))) := (Below.refl _ _).alloc (Nat.le_refl _) _
 have HR0 : RCh q (w.alloc (.cells #[.int .i64 q, .slice none 0 0] 52)) w.heap.size [] := ⟨none, 0, heap_alloc_new w _, numL_nil _⟩
 have HS := hid (rstep_any q n w.heap.size cap 2 a l [] (w.alloc (.cells #[.int .i64 q, .slice none 0 0] 52)) h5 h4 hpn (by omega) (by simpa using hlen) (fun j hj => by simp at hj) hfl HR0 ((hl.below HBA.out).mono HBA.out.size))
 rw [List.nil_append] at HS
 clear hpn hfl hl HR0
 go_enter Tryz.func13, Tryz.ntmps13
 go_wp2_with fail
 refine HS.out.mono ?_
 rintro e w1 ⟨rfl, hr, hg⟩
 have HE : Hid (RCh q w1 w.heap.size (digl q n (2 :: l)) /\ Below w.heap.size w w1) := ⟨hr, HBA.out.trans (gb_to hg (Nat.le_refl _) HBA.out.size)⟩
 clear hr hg HS
 go_wp2_with fail
 go_ret
 exact ⟨w.heap.size, rfl, Nat.le_refl _, HE.out.1, HE.out.2⟩
theorem rdraw_new (q n r : Nat) (D : List Int) (w : World) (h5 : 5 <= q) (h4 : q <= 2147483647) (hpn : Spo.PowIs q n) (hlen : D.length <= 17592186044000) (hfd : Fits D) (hr : RCh q w r D) :
  Calls Tryz.prog 44 #[.pointer (some ⟨r, 0, none⟩)] w fun e w' => e = .returned (.int .i64 (zat (digl q n (4 :: D)) 0)) /\ RCn q w' r (digl q n (4 :: D)) w.heap.size /\ w.grownBy w' (some r) := by
 have HS := hid (rstep_new q n r 0 4 none [] D w h5 h4 hpn (by omega) (by simpa using hlen) hfd (fun j hj => by simp at hj) hr (numL_nil w).1)
 rw [List.append_nil, List.length_nil] at HS
 clear hpn hfd hr
 go_enter Tryz.func44, Tryz.ntmps44
 go_wp2_with fail
 refine HS.out.mono ?_
 rintro e w1 ⟨rfl, hr, hg⟩
 have HE : Hid (RCn q w1 r (digl q n (4 :: D)) w.heap.size /\ w.grownBy w1 (some r)) := ⟨hr, hg⟩
 obtain ⟨a, c, hb, hn⟩ := hr.rch
 rw [digl_len] at hb
 have c1 := duo1 hb
 obtain ⟨g, o, rfl, _, hc⟩ := hn.1.row 0 (by rw [digl_len]; omega)
 rw [Nat.add_zero] at hc
 clear hg HS hb hn
 obtain ⟨z, hz⟩ := exE (zat (digl q n (4 :: D)) 0)
 rw [<- hz] at hc
 have HZ := hid hz
 clear hz
 go_wp2_with fail
 go_ret
 exact ⟨by rw [<- HZ.out]; rfl, HE.out⟩
def insz (x : Int) : List Int -> List Int
 | [] => [x]
 | y :: r => if x < y then x :: y :: r else if x = y then y :: r else y :: insz x r
theorem mem_insz (x z : Int) : ∀ os : List Int, z ∈ insz x os ↔ z = x ∨ z ∈ os
 | [] => by simp [insz]
 | y :: r => by
  unfold insz
  split
  ·simp
  ·split
   ·rename_i h; subst h; simp
   ·simp only [List.mem_cons, mem_insz x z r]
    constructor
    ·rintro (h | h | h)
     ·exact .inr (.inl h)
     ·exact .inl h
     ·exact .inr (.inr h)
    ·rintro (h | h | h)
     ·exact .inr (.inl h)
     ·exact .inl h
     ·exact .inr (.inr h)
theorem asc_insz (x : Int) : ∀ os : List Int, Asc os -> Asc (insz x os)
 | [], _ => by simp [insz, Asc]
 | y :: r, h => by
  have h1 := List.pairwise_cons.1 h
  unfold insz
  split
  ·rename_i hx
   refine List.pairwise_cons.2 ⟨fun z hz => ?_, h⟩
   rcases List.mem_cons.1 hz with rfl | hz
   ·exact hx
   ·have := h1.1 z hz; omega
  ·split
   ·exact h
   ·refine List.pairwise_cons.2 ⟨fun z hz => ?_, asc_insz x r h1.2⟩
    rcases (mem_insz x z r).1 hz with rfl | hz
    ·omega
    ·exact h1.1 z hz
def onc (ps : List Int) : List Int := ps.foldr insz []
theorem onc_is (ps : List Int) : OnceIs ps (onc ps) := by
 induction ps with
 | nil => exact ⟨by simp [onc, Asc], fun x => by simp [onc]⟩
 | cons a r ih =>
  refine ⟨asc_insz a _ ih.1, fun x => ?_⟩
  show x ∈ insz a (onc r) ↔ _
  rw [mem_insz, List.mem_cons, ih.2]
theorem onc_eq {ps os : List Int} (h : OnceIs ps os) : os = onc ps := h.unique (onc_is ps)
end Go.Proofs.YtlhjifpomchnfaaGreatDoor
