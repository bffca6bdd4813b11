/- Package sums: total, allFixed, round. -/
import Derived.Test.YtecaifjbmfianafDoorSmgA
import Derived.Test.YtecaifjbmfianafDoorSpgs
namespace Go.Proofs.YtecaifjbmfianafDoor
open Go.RowKit

/-- rows of rows that lie in blocks of a kind -/
structure TabP (P : Nat → Prop) (w : World) (a : Option Addr) (cap : Nat) (rows : List (List Int)) : Prop where
  row : ∀ k, k < rows.length → ∃ b o ak ck, a = some ⟨b, o, none⟩ ∧ P b ∧ w.cell? ⟨b, o + k, none⟩ = some (.slice ak (rat rows k).length ck) ∧ RowP P w ak (rat rows k) ∧ (rat rows k).length ≤ ck ∧ (ak = none → ck = 0)
  room : rows.length ≤ cap
  nil : a = none → cap = 0
theorem TabP.lst {P : Nat → Prop} {w : World} {a : Option Addr} {cap n0 : Nat} {rows : List (List Int)} (h : TabP P w a cap rows) (hP : ∀ b, P b → b < n0) : LstR n0 w a cap rows :=
  ⟨fun k hk => by
    obtain ⟨b, o, ak, ck, h1, h2, h3, h4, h5, h6⟩ := h.row k hk
    exact ⟨b, o, ak, ck, h1, hP b h2, h3, ⟨fun j hj => by
      obtain ⟨b', o', g1, g2, g3⟩ := h4 j hj
      exact ⟨b', o', g1, hP b' g2, g3⟩, h5, h6⟩⟩, h.room, h.nil⟩
theorem TabP.of_lst {w : World} {a : Option Addr} {cap n0 : Nat} {rows : List (List Int)} (h : LstR n0 w a cap rows) : TabP (· < n0) w a cap rows :=
  ⟨fun k hk => by
    obtain ⟨b, o, ak, ck, h1, h2, h3, h4⟩ := h.row k hk
    exact ⟨b, o, ak, ck, h1, h2, h3, fun j hj => by
      obtain ⟨b', o', g1, g2, g3⟩ := h4.row j hj
      exact ⟨b', o', g1, g2, g3⟩, h4.room, h4.nil⟩, h.room, h.nil⟩
theorem TabP.keep {P : Nat → Prop} {w w' : World} {a : Option Addr} {cap : Nat} {rows : List (List Int)} (h : TabP P w a cap rows) (e : ∀ b, P b → w'.heap[b]? = w.heap[b]?) : TabP P w' a cap rows :=
  ⟨fun k hk => by
    obtain ⟨b, o, ak, ck, h1, h2, h3, h4, h5, h6⟩ := h.row k hk
    exact ⟨b, o, ak, ck, h1, h2, (World.cell?_of_block (w := w) (a := ⟨b, o + k, none⟩) (e b h2)).trans h3, fun j hj => by
      obtain ⟨b', o', g1, g2, g3⟩ := h4 j hj
      exact ⟨b', o', g1, g2, (World.cell?_of_block (w := w) (a := ⟨b', o' + j, none⟩) (e b' g2)).trans g3⟩, h5, h6⟩, h.room, h.nil⟩
theorem TabP.imp {P Q : Nat → Prop} {w : World} {a : Option Addr} {cap : Nat} {rows : List (List Int)} (h : TabP P w a cap rows) (e : ∀ b, P b → Q b) : TabP Q w a cap rows :=
  ⟨fun k hk => by
    obtain ⟨b, o, ak, ck, h1, h2, h3, h4, h5, h6⟩ := h.row k hk
    exact ⟨b, o, ak, ck, h1, e b h2, h3, fun j hj => by
      obtain ⟨b', o', g1, g2, g3⟩ := h4 j hj
      exact ⟨b', o', g1, e b' g2, g3⟩, h5, h6⟩, h.room, h.nil⟩

theorem ArrI.rowE {w : World} {g n n0 : Nat} {t : TypeId} {f : Nat → Int} (h : ArrI w g t n f) {zs : List Int} (hn : zs.length = n) (hz : ∀ j, j < n → zat zs j = f j) (hg : g < n0) : RowB n0 w (some ⟨g, 0, none⟩) zs := fun k hk => ⟨g, 0, rfl, hg, by rw [Nat.zero_add, h.cell (by omega), hz k (by omega)]⟩
theorem ArrI.lst {w : World} {g n n0 : Nat} {t : TypeId} {f : Nat → Int} (h : ArrI w g t n f) {zs : List Int} (hn : zs.length = n) (hz : ∀ j, j < n → zat zs j = f j) (hg : g < n0) : Lst n0 w (some ⟨g, 0, none⟩) n zs := ⟨h.rowE hn hz hg, by omega, fun e => by cases e⟩

set_option maxRecDepth 100000 in
set_option maxHeartbeats 2000000 in
theorem total_any (p b cap N : Nat) (a : Option Addr) (rows : List (List Int)) (w : World) (hF : InF p b w) (h1 : 1 ≤ rows.length) (hrl : rows.length ≤ 17592186043904) (hlen : ∀ k, k < rows.length → (rat rows k).length = N) (hN : N ≤ 17592186043904) (hf : ∀ k, k < rows.length → Fits (rat rows k)) (hl : LstR w.heap.size w a cap rows) :
    Calls Tryd.prog 50 #[.pointer (some ⟨b, 0, none⟩), .slice a rows.length cap] w fun e w' => e = .returned (.int .i64 (totz p rows)) ∧ Below w.heap.size w w' := by
  have h3 := hF.h3
  have hm := hF.hm
  have HFF := hid hF
  obtain ⟨d, hd⟩ : ∃ d, d = rows.length := ⟨_, rfl⟩
  obtain ⟨G, hG⟩ : ∃ G : Nat → Nat → Int, G = fun i k => zat (rat rows k) i := ⟨_, rfl⟩
  have HE0 : Hid (totz p rows = Dom.sm (fun i => Sum.prz (G i) d) N % (p : Int)) := by unfold Hid totz; rw [hG, hlen 0 (by omega), hd]
  have HAC : Hid (∀ (i : Nat) (W : World), i < N → Below w.heap.size w W → Calls Tryd.prog 77 #[.slice a d cap, .int .i64 (i : Int)] W fun e w' => e = .returned (.slice (some ⟨W.heap.size, 0, none⟩) d d) ∧ ArrI w' W.heap.size 3 d (G i) ∧ Below W.heap.size W w') := fun i W hi hb => by
    have := across_any cap i a rows W hrl (by omega) (fun k hk => by rw [hlen k hk]; exact hi) ((hl.below hb).mono hb.size)
    rw [← hd] at this
    rw [hG]
    exact this
  have HFT : Hid (∀ i, Fits (ls (G i) d)) := fun i j hj => by
    rw [ls_len] at hj
    rw [ls_at _ _ _ hj, hG]
    exact (hf j (by omega)).all i
  have HPR : Hid (∀ (i : Nat) (W W' : World), InF p b W' → W.heap.size < W'.heap.size → ArrI W' W.heap.size 3 d (G i) → Calls Tryd.prog 76 #[.pointer (some ⟨b, 0, none⟩), .slice (some ⟨W.heap.size, 0, none⟩) d d] W' fun e w' => e = .returned (.int .i64 (Sum.prz (G i) d % (p : Int))) ∧ w' = W') := fun i W W' hF' hs hA => by
    have := product_any p b d W'.heap.size (some ⟨W.heap.size, 0, none⟩) (ls (G i) d) W' h3 hm hF'.cell (by rw [ls_len]; omega) (HFT.out i) (hA.rowE (ls_len _ _) (fun j hj => ls_at _ _ _ hj) hs)
    rw [ls_len, Sum.prz_same (g := G i) (fun j hj => ls_at _ _ _ hj)] at this
    exact this
  obtain ⟨b0, o0, ak0, ck0, rfl, hb0, hc0, _⟩ := hl.row 0 (by omega)
  rw [hlen 0 (by omega), Nat.add_zero] at hc0
  have t0 : (0 : Int) < (d : Int) := by omega
  rw [← hd] at hrl ⊢
  clear hf hl hlen hd hG h1 hF
  go_enter Tryd.func50, Tryd.ntmps50
  go_wp2_with fail
  go_loopw [5, 11] (fun sv iv wr => ∃ (i : Nat) (s : Int), i ≤ N ∧ iv = .int .i64 i ∧ sv = .int .i64 s ∧ 0 ≤ s ∧ s < (p : Int) ∧ Hid (s = Dom.sm (fun i => Sum.prz (G i) d) i % (p : Int) ∧ Below w.heap.size w wr)) (fun _ iv _ => N - (intOf iv).toNat)
  case atStart => exact ⟨0, 0, by omega, rfl, rfl, by omega, by omega, by simp [Dom.sm], Below.refl _ _⟩
  case round =>
    obtain ⟨i, s, hi, rfl, rfl, hs1, hs2, hI⟩ := hrel
    by_cases hlt : i < N
    · have hlt2 : (i : Int) < (N : Int) := by omega
      have hks : IntKind.i64.wrap ((i : Int) + 1) = (i : Int) + 1 := by rw [IntKind.wrap_i64]; omega
      have HA := hid (HAC.out i wr hlt hI.out.2)
      go_wp2_with fail
      refine HA.out.mono ?_
      rintro e w1 ⟨rfl, hA1, hb1⟩
      have hbw : Below w.heap.size w w1 := hI.out.2.trans (hb1.mono hI.out.2.size)
      have HP1 := hid (HPR.out i wr w1 (HFF.out.below hbw) hA1.lt hA1)
      have HBW := hid hbw
      have HFW := hid (HFF.out.below hbw)
      obtain ⟨x1, x2⟩ := emod_bounds (Sum.prz (G i) d) p h3
      have HXD := hid (dvd_self_mod p (Sum.prz (G i) d))
      have HS1 := hid hI.out.1
      generalize hX : Sum.prz (G i) d % (p : Int) = x at *
      have HAD := hid (add_any p b s x w1 h3 hm HFW.out.cell (by omega) (by omega) (by omega) (by omega))
      obtain ⟨g1, g2⟩ := emod_bounds (s + x) p h3
      have HE : Hid ((s + x) % (p : Int) = Dom.sm (fun i => Sum.prz (G i) d) (i + 1) % (p : Int)) := by
        unfold Hid
        rw [Pol.emod_eq_iff (by omega), Dom.sm]
        refine Sum.dvd_add_sub ?_ HXD.out
        rw [HS1.out]
        exact dvd_self_mod p _
      generalize (s + x) % (p : Int) = s' at *
      clear hI hA1 hb1 hbw hX HA
      go_wp2_with fail
      refine HP1.out.mono ?_
      rintro e w2 ⟨rfl, rfl⟩
      go_wp2_with fail
      refine HAD.out.mono ?_
      rintro e w3 ⟨rfl, rfl⟩
      go_wp2_with fail
      go_roundw
      case rel => exact ⟨i + 1, s', by omega, by go_num, rfl, g1, g2, HE.out, HBW.out⟩
      case measure => simp [intOf]; omega
    · obtain rfl : i = N := by omega
      have hlt2 : ¬ (i : Int) < (i : Int) := by omega
      have HE : Hid (s = totz p rows ∧ Below w.heap.size w wr) := ⟨by rw [HE0.out, hI.out.1], hI.out.2⟩
      clear hI
      go_wp2_with fail
      go_ret
      exact ⟨by rw [← HE.out.1]; rfl, HE.out.2⟩

/-- tables with their first variable let be r, as far as they are made -/
def FixV (w : World) (p n0 k : Nat) (rows : List (List Int)) (r : Int) (V : Nat → Value) : Prop := ∀ j, j < k → ∃ g, V j = .slice (some ⟨g, 0, none⟩) ((rat rows j).length / 2) ((rat rows j).length / 2) ∧ n0 < g ∧ g < w.heap.size ∧ ArrI w g 3 ((rat rows j).length / 2) (zat (fixl p (rat rows j) r))

set_option maxRecDepth 100000 in
set_option maxHeartbeats 2000000 in
theorem allfixed_any (p b cap : Nat) (a : Option Addr) (rows : List (List Int)) (r : Int) (w : World) (hF : InF p b w) (hR : InR w a cap rows) (hr1 : -9223372036854775808 ≤ r) (hr2 : r ≤ 9223372036854775807) :
    Calls Tryd.prog 78 #[.pointer (some ⟨b, 0, none⟩), .slice a rows.length cap, .int .i64 r] w fun e w' => e = .returned (.slice (some ⟨w.heap.size, 0, none⟩) rows.length rows.length) ∧ TabP (fun g => w.heap.size ≤ g ∧ g < w'.heap.size) w' (some ⟨w.heap.size, 0, none⟩) rows.length (fixr p rows r) ∧ Below w.heap.size w w' := by
  have HFF := hid hF
  have HR := hid hR
  have hd := hR.len
  obtain ⟨d, hdd⟩ : ∃ d, d = rows.length := ⟨_, rfl⟩
  rw [← hdd] at hd ⊢
  have HD := hid hdd
  clear hF hR hdd
  have hmk2 := fun w => run_make_row' (P := Tryd.prog) 57 22 (.slice none 0 0) 24 Tryd.underlying57 Tryd.infoSl rfl .i64 .i64 d (by omega) (by omega) w
  go_enter Tryd.func78, Tryd.ntmps78
  go_wp2_with fail
  go_loopw [15] (fun iv wr => ∃ (k : Nat) (V : Nat → Value), k ≤ d ∧ iv = .int .i64 k ∧ Hid (wr.rowIs w.heap.size 22 d V ∧ FixV wr p w.heap.size k rows r V ∧ Below w.heap.size w wr)) (fun iv _ => d - (intOf iv).toNat)
  case atStart => exact ⟨0, fun _ => .slice none 0 0, by omega, rfl, World.rowIs_made _ _ _ _, fun j hj => by omega, (Below.refl _ _).alloc (Nat.le_refl _) _⟩
  case round =>
    obtain ⟨k, V, hk, rfl, hC⟩ := hrel
    obtain ⟨hV, hM, hbel⟩ := hC.out
    by_cases hlt : k < d
    · have hlt2 : (k : Int) < (d : Int) := by omega
      have hks : IntKind.i64.wrap ((k : Int) + 1) = (k : Int) + 1 := by rw [IntKind.wrap_i64]; omega
      have hA := hV.lt
      have hkr : k < rows.length := by rw [← HD.out]; exact hlt
      obtain ⟨b0, o0, ak, ck, rfl, hb0, hc, hlk⟩ := HR.out.lst.row k hkr
      have hc2 := (hbel.cell (p := ⟨b0, o0 + k, none⟩) hb0).trans hc
      have hln := HR.out.lens k hkr
      have HFX := hid (fixed_any p b ck ak (rat rows k) r wr wr.heap.size HFF.out.h3 HFF.out.hm (HFF.out.below hbel).cell hln (HR.out.fit k hkr) hr1 hr2 ((hlk.below hbel).mono hbel.size).row (Nat.le_refl _))
      have HC := hid (And.intro hV (And.intro hM hbel))
      obtain ⟨hf, hhf⟩ : ∃ hf, hf = (rat rows k).length / 2 := ⟨_, rfl⟩
      rw [← hhf] at HFX
      have HHF := hid hhf
      obtain ⟨L, hL⟩ : ∃ L, L = (rat rows k).length := ⟨_, rfl⟩
      rw [← hL] at HFX hc2
      clear hV hM hbel hC hc hlk hln hhf hL
      go_wp2_with fail
      refine HFX.out.mono ?_
      rintro e w1 ⟨rfl, hF1, hb1⟩
      obtain ⟨hV, hM, hbel⟩ := HC.out
      have hV1 := hV.of_block (hb1.block _ hA)
      have c1 := hV1.cell hlt
      have y1 := hV1.frozen k
      have hgl := hF1.lt
      have hs1 := hb1.size
      have HX : Hid ((w1.setCell ⟨w.heap.size, k, none⟩ (.slice (some ⟨wr.heap.size, 0, none⟩) hf hf)).rowIs w.heap.size 22 d (fun j => if j = k then .slice (some ⟨wr.heap.size, 0, none⟩) hf hf else V j) ∧ FixV (w1.setCell ⟨w.heap.size, k, none⟩ (.slice (some ⟨wr.heap.size, 0, none⟩) hf hf)) p w.heap.size (k + 1) rows r (fun j => if j = k then .slice (some ⟨wr.heap.size, 0, none⟩) hf hf else V j) ∧ Below w.heap.size w (w1.setCell ⟨w.heap.size, k, none⟩ (.slice (some ⟨wr.heap.size, 0, none⟩) hf hf))) := by
        refine ⟨hV1.set k _, fun j hj => ?_, (hbel.trans (hb1.mono hbel.size)).setCell (p := ⟨w.heap.size, k, none⟩) (by simp) _⟩
        by_cases e : j = k
        · subst e
          refine ⟨wr.heap.size, by simp [HHF.out], by omega, by simpa [World.setCell] using hgl, ?_⟩
          rw [← HHF.out]
          exact hF1.other (a := ⟨w.heap.size, j, none⟩) (by show wr.heap.size ≠ w.heap.size; omega) _
        · obtain ⟨g', h1, h2, h3, h4⟩ := hM j (by omega)
          refine ⟨g', by simp [e, h1], h2, by simp [World.setCell]; omega, ?_⟩
          exact (h4.below hb1 h3).other (a := ⟨w.heap.size, k, none⟩) (by show g' ≠ w.heap.size; omega) _
      clear hV hM hbel hV1 hF1 hb1 HC HFX
      generalize V k = vk at c1
      go_wp2_with fail
      go_roundw
      case rel => exact ⟨k + 1, _, by omega, by go_num, HX⟩
      case measure => simp [intOf]; omega
    · obtain rfl : k = d := by omega
      have hlt2 : ¬ (k : Int) < (k : Int) := by omega
      have HE : Hid (TabP (fun g => w.heap.size ≤ g ∧ g < wr.heap.size) wr (some ⟨w.heap.size, 0, none⟩) k (fixr p rows r) ∧ Below w.heap.size w wr) := by
        refine ⟨⟨fun j hj => ?_, by rw [fixr_len, ← HD.out]; exact Nat.le_refl _, fun e => by cases e⟩, hbel⟩
        rw [fixr_len, ← HD.out] at hj
        obtain ⟨g, h1, h2, h3, h4⟩ := hM j hj
        have hjr : j < rows.length := by rw [← HD.out]; exact hj
        refine ⟨w.heap.size, 0, some ⟨g, 0, none⟩, (rat rows j).length / 2, rfl, ⟨Nat.le_refl _, hV.lt⟩, ?_, ?_, ?_, fun e => by cases e⟩
        · rw [Nat.zero_add, hV.cell hj, h1, fixr_rat hjr, fixl_len]
        · intro i hi
          rw [fixr_rat hjr, fixl_len] at hi
          exact ⟨g, 0, rfl, ⟨by omega, h3⟩, by rw [Nat.zero_add, h4.cell hi, fixr_rat hjr]⟩
        · rw [fixr_rat hjr, fixl_len]; exact Nat.le_refl _
      clear hV hM hbel hC
      go_wp2_with fail
      go_ret
      exact ⟨rfl, HE.out⟩

/-- tables that are made of tables -/
theorem inR_fix {p b cap : Nat} {a a' : Option Addr} {rows : List (List Int)} {r : Int} {W W' : World} (hF : InF p b W) (hR : InR W a cap rows) {n c : Nat} (h : TabP (fun g => n ≤ g ∧ g < W'.heap.size) W' a' c (fixr p rows r)) : InR W' a' c (fixr p rows r) :=
  ⟨by rw [fixr_len]; exact hR.len, fun k hk => by
    rw [fixr_len] at hk
    rw [fixr_rat hk, fixl_len]
    have := hR.lens k hk
    omega, fixr_fits hF.h3 hF.hm rows r, h.lst (fun g hg => hg.2)⟩

set_option maxRecDepth 100000 in
set_option maxHeartbeats 2000000 in
theorem round_any (p b cap N : Nat) (a : Option Addr) (rows : List (List Int)) (w : World) (hF : InF p b w) (hR : InR w a cap rows) (h1 : 1 ≤ rows.length) (hlen : ∀ k, k < rows.length → (rat rows k).length = N) (hN : N ≤ 17592186043904) :
    Calls Tryd.prog 52 #[.pointer (some ⟨b, 0, none⟩), .slice a rows.length cap] w fun e w' => e = .returned (.slice (some ⟨w.heap.size, 0, none⟩) (rows.length + 1) (rows.length + 1)) ∧ ArrI w' w.heap.size 3 (rows.length + 1) (zat (rndl p rows)) ∧ Below w.heap.size w w' := by
  have HFF := hid hF
  have hd := hR.len
  obtain ⟨G, hG⟩ : ∃ G : Nat → Int, G = zat (rndl p rows) := ⟨_, rfl⟩
  have HGX : Hid (∀ x : Nat, x < rows.length + 1 → totz p (fixr p rows (x : Int)) = G x) := fun x hx => by rw [hG]; unfold rndl; rw [ls_at _ _ _ hx]
  have HAF : Hid (∀ (x : Nat) (W : World), x < rows.length + 1 → Below w.heap.size w W → Calls Tryd.prog 78 #[.pointer (some ⟨b, 0, none⟩), .slice a rows.length cap, .int .i64 (x : Int)] W fun e w' => e = .returned (.slice (some ⟨W.heap.size, 0, none⟩) rows.length rows.length) ∧ Below W.heap.size W w' ∧ Calls Tryd.prog 50 #[.pointer (some ⟨b, 0, none⟩), .slice (some ⟨W.heap.size, 0, none⟩) rows.length rows.length] w' fun e w'' => e = .returned (.int .i64 (G x)) ∧ Below w'.heap.size w' w'') := fun x W hx hb => by
    refine (allfixed_any p b cap a rows (x : Int) W (hF.below hb) (hR.below hb) (by omega) (by omega)).mono ?_
    rintro e w' ⟨rfl, hT, hb'⟩
    refine ⟨rfl, hb', ?_⟩
    have hI := inR_fix (hF.below hb) (hR.below hb) hT
    have := total_any p b rows.length (N / 2) (some ⟨W.heap.size, 0, none⟩) (fixr p rows (x : Int)) w' (hF.below (hb.trans (hb'.mono hb.size))) (by rw [fixr_len]; exact h1) (by rw [fixr_len]; omega) (fixr_lens hlen _) (by omega) hI.fit hI.lst
    rw [fixr_len, HGX.out x hx] at this
    exact this
  obtain ⟨d, hdd⟩ : ∃ d, d = rows.length := ⟨_, rfl⟩
  rw [← hG]
  rw [← hdd] at hd HAF ⊢
  obtain ⟨n, hn⟩ : ∃ n, n = d + 1 := ⟨_, rfl⟩
  rw [← hn] at HAF ⊢
  have e1 : IntKind.i64.wrap ((d : Int) + 1) = (n : Int) := by rw [IntKind.wrap_i64]; omega
  have e2 : (d : Int) + 1 = (n : Int) := by omega
  have hn2 : n ≤ 17592186043905 := by omega
  clear hF hR hdd hG h1 hlen hN hn HGX
  have hmk2 := fun w => run_make_row' (P := Tryd.prog) 22 3 (.int .i64 0) 8 Tryd.underlying22 Tryd.infoInt rfl .i64 .i64 n (by omega) (by omega) w
  go_enter Tryd.func52, Tryd.ntmps52
  go_wp2_with fail
  go_loopw [13] (fun iv wr => ∃ k : Nat, k ≤ n ∧ iv = .int .i64 k ∧ Hid (ArrI wr w.heap.size 3 n (fll G (fun _ => 0) k) ∧ Below w.heap.size w wr)) (fun iv _ => n - (intOf iv).toNat)
  case atStart => exact ⟨0, by omega, rfl, by rw [fll_zero]; exact World.rowIs_made _ _ _ _, (Below.refl _ _).alloc (Nat.le_refl _) _⟩
  case round =>
    obtain ⟨k, hk, rfl, hI⟩ := hrel
    by_cases hlt : k < n
    · have hlt2 : (k : Int) < (n : Int) := by omega
      have hks : IntKind.i64.wrap ((k : Int) + 1) = (k : Int) + 1 := by rw [IntKind.wrap_i64]; omega
      have HA := hid (HAF.out k wr hlt hI.out.2)
      have hA0 := hI.out.1.lt
      go_wp2_with fail
      refine HA.out.mono ?_
      rintro e w1 ⟨rfl, hb1, hT1⟩
      have HT1 := hid hT1
      have HB1 := hid hb1
      clear hT1 hb1 HA
      go_wp2_with fail
      refine HT1.out.mono ?_
      rintro e w2 ⟨rfl, hb2⟩
      have hbr : Below wr.heap.size wr w2 := HB1.out.trans (hb2.mono HB1.out.size)
      have hA2 := hI.out.1.below hbr hA0
      have hbw : Below w.heap.size w w2 := hI.out.2.trans (hbr.mono hI.out.2.size)
      have c1 := hA2.cell hlt
      have y1 := hA2.frozen k
      have HE : Hid (ArrI (w2.setCell ⟨w.heap.size, k, none⟩ (.int .i64 (G k))) w.heap.size 3 n (fll G (fun _ => 0) (k + 1)) ∧ Below w.heap.size w (w2.setCell ⟨w.heap.size, k, none⟩ (.int .i64 (G k)))) := ⟨hA2.next, hbw.setCell (p := ⟨w.heap.size, k, none⟩) (by simp) _⟩
      generalize G k = z at *
      generalize fll G (fun _ => 0) k k = y0 at *
      clear hI hb2 hbr hA2 hbw HT1 HB1
      go_wp2_with fail
      go_roundw
      case rel => exact ⟨k + 1, by omega, by go_num, HE⟩
      case measure => simp [intOf]; omega
    · obtain rfl : k = n := by omega
      have hlt2 : ¬ (k : Int) < (k : Int) := by omega
      have HE : Hid (ArrI wr w.heap.size 3 k G ∧ Below w.heap.size w wr) := ⟨hI.out.1.congr (fun j hj => fll_all hj), hI.out.2⟩
      clear hI
      go_wp2_with fail
      go_ret
      exact ⟨rfl, HE.out⟩

end Go.Proofs.YtecaifjbmfianafDoor
