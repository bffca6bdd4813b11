/- Package machine: slices.SortFunc at cells, whole. MachineRuns: the walk, with the sort laid. -/
import Derived.Shelf.SlSortCmp.NoneTotal
import Derived.Test.YthemehdcakimgaiDoorBiAQ
namespace Go.Proofs.YthemehdcakimgaiDoor
open Go.RowKit Go.Maps

/-- a cell's two numbers -/
def enc2 (x : Int × Int) : List Value := [.int .i64 x.1, .int .i64 x.2]
def cf2 (x y : Int × Int) : Int := Lib.compareInt x.1 y.1
theorem lt2 (x y : Int × Int) : ltOf cf2 x y = decide (x.1 < y.1) := by
  unfold ltOf cf2 Lib.compareInt
  by_cases h1 : x.1 < y.1
  · simp [h1]
  · by_cases h2 : y.1 < x.1 <;> simp [h1, h2]
theorem swo2 : Sort.SWO (ltOf cf2) where
  irrefl x := by rw [lt2]; simp
  trans x y z h1 h2 := by rw [lt2] at *; simp at *; omega
  ntrans x y z h1 h2 := by rw [lt2] at *; simp at *; omega

theorem celv_flat (l : List (Int × Int)) (t : Nat) (h : t < l.length * 2) : (celv l)[t]? = some (Sort.flatK enc2 2 l.toArray)[t]! := by
  rw [Sort.get_flatK enc2 2 _ t (by simpa using h)]
  have hj : t / 2 < l.length := by omega
  have hc : (l.toArray)[t / 2]! = cat l (t / 2) := by
    rw [getElem!_pos _ _ (by simpa using hj)]
    simp [cat, hj]
  rw [hc]
  have ha := celv_at l (t / 2) hj
  rcases Nat.mod_two_eq_zero_or_one t with h0 | h0
  · rw [h0]
    have e : t / 2 * 2 = t := by omega
    rw [e] at ha
    exact ha.1
  · rw [h0]
    have e : t / 2 * 2 + 1 = t := by omega
    rw [e] at ha
    exact ha.2

theorem srt_perm {l : List (Int × Int)} {d' : Array (Int × Int)} (h : Sort.PermIn 0 l.toArray.size l.toArray d') : d'.size = l.length ∧ d'.toList.Perm l := by
  obtain ⟨h1, _, h3⟩ := h
  have h1' : d'.size = l.length := by simpa using h1
  refine ⟨h1', ?_⟩
  have e1 : (d'.extract 0 l.toArray.size) = d' := by
    rw [← h1]
    simp
  have e2 : (l.toArray.extract 0 l.toArray.size).toList = l := by simp
  rw [e1, e2] at h3
  exact h3

theorem srt_up {n : Nat} {d' : Array (Int × Int)} (hn : d'.size = n) (h : Sort.SortedIn (ltOf cf2) 0 n d') : d'.toList.Pairwise (fun a b => a.1 ≤ b.1) := by
  rw [List.pairwise_iff_getElem]
  intro i j hi hj hij
  have hi' : i < d'.size := by simpa using hi
  have hj' : j < d'.size := by simpa using hj
  have := h i j (Nat.zero_le _) hij (by omega)
  rw [lt2, getElem!_pos d' i hi', getElem!_pos d' j hj'] at this
  have h2 := of_decide_eq_false this
  simp only [Array.getElem_toList]
  omega

theorem srt_heap (W : World) (g n : Nat) (d' : Array (Int × Int)) (os : Array Obj) (k : Nat) (hk : k < W.heap.size) :
    (sortWorldK enc2 2 W g 0 n d' os).heap[k]? = if g = k then (W.heap[k]?).map (Sort.onCells (Sort.putCells id 0 (Sort.flatK enc2 2 d'))) else W.heap[k]? := by
  show ((W.heap.modify g (Sort.onCells (Sort.putCells id 0 (Sort.flatK enc2 2 d')))) ++ os)[k]? = _
  rw [Array.getElem?_append_left (by simpa using hk), Array.getElem?_modify]

theorem srt_cel {base : Nat} {W : World} {g cap : Nat} {l : List (Int × Int)} (h : CelR base W (.slice (some ⟨g, 0, none⟩) l.length cap) l) (hg0 : g < W.heap.size) (n : Nat) (d' : Array (Int × Int)) (os : Array Obj) (hd : d'.size = l.length) :
    CelR base (sortWorldK enc2 2 W g 0 n d' os) (.slice (some ⟨g, 0, none⟩) l.length cap) d'.toList := by
  obtain ⟨h1, h2⟩ := h
  have hdl : d'.toList.length = l.length := by simpa using hd
  refine ⟨celv_len _, .inr ?_⟩
  rcases h2 with ⟨h2, _⟩ | ⟨g', cap', cur, hv, hb, hgc, hn, hm, hs, ht⟩
  · cases h2
  · injection hv with hv1 hv2 hv3
    injection hv1 with hv1
    injection hv1 with hv1
    subst hv1 hv3
    refine ⟨g, cap, Sort.putCells id 0 (Sort.flatK enc2 2 d') cur, by rw [hdl], hb, ?_, by rw [hdl]; exact hn, hm, by simpa [Sort.putCells] using hs, ?_⟩
    · rw [srt_heap W g n d' os g hg0, if_pos rfl, hgc]
      rfl
    · apply List.ext_getElem?
      intro t
      by_cases hlt : t < d'.toList.length * 2
      · have hcu : t < cur.size := by rw [hs]; rw [hdl] at hlt; omega
        rw [List.getElem?_take_of_lt hlt, celv_flat _ t hlt]
        rw [Array.getElem?_toList]
        unfold Sort.putCells
        rw [Array.getElem?_mapIdx, Array.getElem?_eq_getElem hcu, Option.map_some, if_pos ⟨Nat.zero_le _, by rw [Sort.size_flatK]; rw [hdl] at hlt; omega⟩]
        rfl
      · rw [List.getElem?_take_eq_none (by omega), List.getElem?_eq_none (by rw [celv_len]; omega)]

theorem srt_below {base : Nat} {W : World} {g : Nat} (hb : base ≤ g) (hg0 : g < W.heap.size) (n : Nat) (d' : Array (Int × Int)) (os : Array Obj) : Below base W (sortWorldK enc2 2 W g 0 n d' os) := by
  refine ⟨rfl, rfl, rfl, size_sortWorldK_c enc2 2 W g 0 n d' os, fun k hk => ?_⟩
  rw [srt_heap W g n d' os k (by omega), if_neg (by omega)]

theorem srtAs : SrtAs := by
  intro base v l W h hl hb
  have h' := h
  rcases h'.2 with ⟨rfl, h0⟩ | ⟨g, cap, cur, rfl, hbg, hg, hn, hm, hs, ht⟩
  · have hl0 : l = [] := List.length_eq_zero_iff.1 h0
    subst hl0
    have hcon := AnyF.slices_SortFunc_none Tryd.sortC none 0 (.func (.func 40) #[] #[]) W
    refine Calls.mono hcon ?_
    rintro e w' ⟨rfl, rfl⟩
    exact ⟨rfl, [], .refl _, .nil, h, .refl _ _⟩
  · have hg0 : g < W.heap.size := by
      rcases Nat.lt_or_ge g W.heap.size with h | h
      · exact h
      · rw [Array.getElem?_eq_none h] at hg
        cases hg
    have hH : Sort.HoldsK enc2 2 W g 0 l.toArray := by
      intro t hts
      have hts' : t < l.length * 2 := by simpa using hts
      rw [Nat.zero_add]
      have hcu : t < cur.size := by rw [hs]; omega
      have hc := celv_flat l t hts'
      rw [← ht, List.getElem?_take_of_lt hts'] at hc
      constructor
      · unfold World.cell?
        rw [hg]
        simpa using hc
      · unfold World.frozen?
        rw [hg]
        simp
    have hcon := AnyQ.slices_SortFunc Tryd.sortC 2 Tryd.isAgg67 Tryd.sizeOf67 enc2 (fun _ => rfl) (fun x v hv => by simp [enc2] at hv; rcases hv with rfl | rfl <;> rfl) cf2 swo2 40 #[] g 0 cap l.toArray W (enters_of Tryd.func40 (by kernel_rfl) rfl) (fun _ _ _ _ x y => casc_any x y _) hH hg0 (by simp; omega)
    have hsz : l.toArray.size = l.length := by simp
    refine Calls.mono (by rw [hsz] at hcon; exact hcon) ?_
    rintro e w' ⟨rfl, d', n, os, hp, hso, rfl⟩
    rw [← hsz] at hp
    obtain ⟨hd, hpm⟩ := srt_perm hp
    exact ⟨rfl, d'.toList, hpm, srt_up hd hso, srt_cel h hg0 n d' os hd, srt_below hbg hg0 n d' os⟩

end Go.Proofs.YthemehdcakimgaiDoor

namespace Go.Proofs.YthemehdcakimgaiDoor
open Go.RowKit Go.Maps

theorem mruns_walk (p size limit : Int) (aL : Option Addr) (cL : Nat) (L : List InsZ) (w : World) (hL : Laid w) (hp1 : -9223372036854775808 ≤ p) (hp2 : p ≤ 9223372036854775807) (hn : L.length ≤ 4398046511104) (hl : LstI w.heap.size w aL cL L) (hIB : InsB L) :
    Calls Tryd.prog 3 #[.int .i64 p, .agg #[.int .i64 size, .slice aL L.length cL], .int .i64 limit] w fun e w' => e = .returned (.bool true) ∧ Below w.heap.size w w' :=
  mruns_any srtAs p size limit aL cL L w hL hp1 hp2 hn hl hIB

end Go.Proofs.YthemehdcakimgaiDoor
