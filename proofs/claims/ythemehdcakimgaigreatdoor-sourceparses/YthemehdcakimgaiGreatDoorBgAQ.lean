/- Package source: the names of a text, checked. Programs as text, plainly: what is read is well formed. -/
import Derived.Test.YthemehdcakimgaiGreatDoorBgAK
namespace Go.Proofs.YthemehdcakimgaiGreatDoor
open Go.RowKit Go.Shelf

/-- functions by what a call asks of them -/
def sgF (fs : List FnT) (nm : List UInt8) (n : Nat) : Bool := fs.any (fun g => g.name == nm && g.more.length == n)
/-- the first fault of the names of functions, from the i-th on -/
def ckl (fs : List FnT) : List FnT → Nat → Option (Nat × Nat)
  | [], _ => none
  | g :: r, i => if (fs.take i).any (fun h => h.name == g.name) then some (4, g.at') else match ckw (sgF fs) g with
    | some e => some e
    | none => ckl fs r (i + 1)
/-- the first fault of the names of a text of so many bytes -/
def ckn (fs : List FnT) (len : Nat) : Option (Nat × Nat) := match ckl fs fs 0 with
  | some e => some e
  | none => if fs.any (fun h => h.name == mainW) then none else some (6, len)
/-- names and parts of a function that are few enough -/
def FOk (g : FnT) : Prop := g.name.length ≤ 4000 ∧ g.more.length ≤ 4000 ∧ (∀ x, x ∈ g.more → x.1.length ≤ 4000) ∧ TOk g.body
theorem gb_belS {N B : Nat} {w W W' : World} (h : Below N w W) (g : W.grownBy W' (some B)) (hB : N ≤ B) (hN : w.heap.size = N) : Below N w W' :=
  ⟨g.os.trans h.os, g.tape.trans h.tape, g.output.trans h.output, Nat.le_trans h.size g.size, fun k hk => (g.block k (by have := h.size; omega) (fun e => by injection e; omega)).trans (h.block k hk)⟩
theorem FnR.below {lo : Nat} {w w' : World} {a : Option Addr} {fs : List FnT} (h : FnR lo w a fs) (g : Below w.heap.size w w') : FnR lo w' a fs := fun i x hx => by
  obtain ⟨k, a2, c, b, h1, h2, h3, h4, h5, h6, h7, h8⟩ := h i x hx
  exact ⟨k, a2, c, b, h1, h2, (g.cell (p := ⟨k, i * 4, none⟩) (World.block_lt_of_cell? _ _ h3)).trans h3, (g.cell (p := ⟨k, i * 4 + 1, none⟩) (World.block_lt_of_cell? _ _ h4)).trans h4, (g.cell (p := ⟨k, i * 4 + 2, none⟩) (World.block_lt_of_cell? _ _ h5)).trans h5, (g.cell (p := ⟨k, i * 4 + 3, none⟩) (World.block_lt_of_cell? _ _ h6)).trans h6, NmB.keep h7 (fun b hb hl => ⟨hb, g.block b hl⟩), h8.below g⟩

set_option maxRecDepth 100000 in
set_option maxHeartbeats 4000000 in
theorem checkNames_any (T : ByteArray) (fs : List FnT) (a : Option Addr) (c : Nat) (w : World) (hl : FnR 0 w a fs) (hcap : fs.length ≤ c) (hlen : fs.length ≤ 4000) (hok : ∀ g, g ∈ fs → FOk g) (hT : T.size ≤ 4000) :
    Calls Tryz.prog 28 #[.string T, .slice a fs.length c] w fun e w' => Below w.heap.size w w' ∧ match ckn fs T.size with
      | none => ∃ v, e = .returned v
      | some y => e = pncF y.2 y.1 := by
  have hnot : ∀ (x : Bool) (w : World), (Op.unary .not (.bool x)).run Tryz.prog w = .ok (.bool (!x)) w := fun _ _ => rfl
  obtain ⟨res, hres⟩ : ∃ res, Hid (res = ckn fs T.size) := ⟨_, rfl⟩
  rw [← hres.out]
  obtain ⟨R, hR⟩ : ∃ R : Ending → World → Prop, R = (fun e w' => Below w.heap.size w w' ∧ match res with
      | none => ∃ v, e = .returned v
      | some y => e = pncF y.2 y.1) := ⟨_, rfl⟩
  rw [← hR]
  have HRP : Hid (∀ e w', (Below w.heap.size w w' ∧ match res with
      | none => ∃ v, e = .returned v
      | some y => e = pncF y.2 y.1) → R e w') := by unfold Hid; rw [hR]; exact fun _ _ h => h
  obtain ⟨n, hn⟩ : ∃ n, n = fs.length := ⟨_, rfl⟩
  have HN := hid hn
  rw [← hn]
  rw [← hn] at hcap
  have HL := hid hl
  have HOK := hid hok
  have hn4 : n ≤ 4000 := by omega
  have HT := hid hT
  clear hR hl hlen hok hT hn
  have hmm := @run_makeMap Tryz.prog
  go_enter Tryz.func28, Tryz.ntmps28
  go_wp2_with fail
  have HM0 : Hid (MapI sgk sgo (w.alloc (.map #[] 0)) w.heap.size (fun _ => none)) := MapI.new w
  have HB0 : Hid (Below w.heap.size w (w.alloc (.map #[] 0))) := (Below.refl _ w).alloc (Nat.le_refl _) _
  generalize w.alloc (.map #[] 0) = W0 at *
  go_loopw [12] (fun iv wr => ∃ (k : Nat) (M : List UInt8 × Nat → Option Int), k ≤ n ∧ iv = .int .i64 k ∧ Hid (MapI sgk sgo wr w.heap.size M) ∧ Hid (∀ x, (M x).isSome = sgF (fs.take k) x.1 x.2) ∧ Hid (Below w.heap.size w wr)) (fun iv _ => n - (intOf iv).toNat)
  case atStart => exact ⟨0, _, Nat.zero_le _, rfl, HM0, fun _ => rfl, HB0⟩
  case round =>
    obtain ⟨k, M, hk, rfl, hM, hMs, hbel⟩ := hrel
    by_cases hlt : k < n
    · have hlt2 : (k : Int) < (n : Int) := by omega
      have hks : IntKind.i64.wrap ((k : Int) + 1) = (k : Int) + 1 := by rw [IntKind.wrap_i64]; omega
      obtain ⟨g, hg⟩ : ∃ g, fs[k]? = some g := ⟨_, List.getElem?_eq_getElem (by have := HN.out; omega)⟩
      obtain ⟨kb, a2, c2, b, rfl, _, d0, d1, d2, d3, _⟩ := HL.out k g hg
      have c0 := (hbel.out.cell (p := ⟨kb, k * 4, none⟩) (World.block_lt_of_cell? _ _ d0)).trans d0
      have c1 := (hbel.out.cell (p := ⟨kb, k * 4 + 1, none⟩) (World.block_lt_of_cell? _ _ d1)).trans d1
      have c2' := (hbel.out.cell (p := ⟨kb, k * 4 + 2, none⟩) (World.block_lt_of_cell? _ _ d2)).trans d2
      have c3 := (hbel.out.cell (p := ⟨kb, k * 4 + 3, none⟩) (World.block_lt_of_cell? _ _ d3)).trans d3
      have HFO := hid (HOK.out g (List.mem_of_getElem? hg))
      have HG := hid hg
      clear d0 d1 d2 d3 hg
      go_wp2_with (refine wpList_updateI sigK _ rfl _ _ _ rfl w.heap.size M rfl ?_ (g.name, g.more.length) (k : Int) rfl rfl ⟨HFO.out.1, HFO.out.2.1⟩ ?_)
      · exact hM.out.below ((Below.refl _ wr).alloc (Nat.le_refl _) _)
      · intro w' hM' hgb
        have HM' := hid hM'
        have HB' : Hid (Below w.heap.size w w') := gb_belS (hbel.out.trans (((Below.refl _ wr).alloc (Nat.le_refl _) _).mono hbel.out.size)) hgb (Nat.le_refl _) rfl
        have HMS : Hid (∀ x, (updI M (g.name, g.more.length) (k : Int) x).isSome = sgF (fs.take (k + 1)) x.1 x.2) := fun x => by
          have h1 := hMs.out x
          unfold sgF at h1 ⊢
          rw [List.take_add_one, HG.out, List.any_append, ← h1]
          unfold updI
          by_cases e : x = (g.name, g.more.length)
          · rw [if_pos e, e]; simp
          · rw [if_neg e]
            have : (g.name == x.1 && g.more.length == x.2) = false := by
              cases hh : (g.name == x.1 && g.more.length == x.2) with
              | false => rfl
              | true =>
                simp at hh
                exact absurd (Prod.ext hh.1.symm hh.2.symm) e
            simp [this]
        clear hM' hgb hM hMs hbel c0 c1 c2' c3
        go_wp2_with fail
        go_roundw
        case rel => exact ⟨k + 1, _, by omega, by go_num, HM', HMS, HB'⟩
        case measure => simp [intOf]; omega
    · obtain rfl : k = n := by omega
      have hlt2 : ¬ (k : Int) < (k : Int) := by omega
      have HMS : Hid (∀ x, sgo x → (M x).isSome = sgF fs x.1 x.2) := fun x _ => by
        have h1 := hMs.out x
        rwa [HN.out, List.take_length] at h1
      have HL2 := hid (HL.out.below hbel.out)
      clear hMs HL
      obtain ⟨WL, rfl⟩ : ∃ WL, WL = wr := ⟨_, rfl⟩
      go_wp2_with fail
      go_loopw [29] (fun iv wq => ∃ (j : Nat), j ≤ k ∧ iv = .int .i64 j ∧ Hid (ckl fs fs 0 = ckl fs (fs.drop j) j) ∧ Hid (Below WL.heap.size WL wq)) (fun iv _ => k - (intOf iv).toNat)
      case atStart => exact ⟨0, Nat.zero_le _, rfl, rfl, Below.refl _ _⟩
      case round =>
        obtain ⟨j, hj, rfl, hck, hbq⟩ := hrel
        have HBW := hid (hbel.out.trans (hbq.out.mono hbel.out.size))
        by_cases hlj : j < k
        · have hlj2 : (j : Int) < (k : Int) := by omega
          have hks : IntKind.i64.wrap ((j : Int) + 1) = (j : Int) + 1 := by rw [IntKind.wrap_i64]; omega
          obtain ⟨g, hg⟩ : ∃ g, fs[j]? = some g := ⟨_, List.getElem?_eq_getElem (by have := HN.out; omega)⟩
          have HG := hid hg
          obtain ⟨kb, a2, c2, b, rfl, _, d0, d1, d2, d3, d4, d5⟩ := HL2.out j g hg
          have c0 := (hbq.out.cell (p := ⟨kb, j * 4, none⟩) (World.block_lt_of_cell? _ _ d0)).trans d0
          have c1 := (hbq.out.cell (p := ⟨kb, j * 4 + 1, none⟩) (World.block_lt_of_cell? _ _ d1)).trans d1
          have c2' := (hbq.out.cell (p := ⟨kb, j * 4 + 2, none⟩) (World.block_lt_of_cell? _ _ d2)).trans d2
          have c3 := (hbq.out.cell (p := ⟨kb, j * 4 + 3, none⟩) (World.block_lt_of_cell? _ _ d3)).trans d3
          have HFO := hid (HOK.out g (List.mem_of_getElem? hg))
          have HND := hid d4
          have HPD := hid d5
          have hck2 := hck.out
          rw [List.drop_eq_getElem_cons (by have := HN.out; omega), show fs[j]'(by have := HN.out; omega) = g from Option.some.inj ((List.getElem?_eq_getElem _).symm.trans hg), ckl] at hck2
          have HCK := hid hck2
          clear d0 d1 d2 d3 d4 d5 hg hck hck2
          go_wp2_with fail
          have hbA : Below wr.heap.size wr (wr.alloc (.cells #[.string (bs g.name), .int .i64 (g.at' : Int), .slice a2 g.more.length c2, .pointer (some ⟨b, 0, none⟩)] 54)) := (Below.refl _ _).alloc (Nat.le_refl _) _
          have HF : Hid (∀ i v, [Value.string (bs g.name), .int .i64 (g.at' : Int), .slice a2 g.more.length c2, .pointer (some ⟨b, 0, none⟩)][i]? = some v → (wr.alloc (.cells #[.string (bs g.name), .int .i64 (g.at' : Int), .slice a2 g.more.length c2, .pointer (some ⟨b, 0, none⟩)] 54)).cell? ⟨wr.heap.size, i, none⟩ = some v) := fun i v hi => by
            have := cell_four_new wr _ _ _ _ 54 i v hi
            rwa [show (⟨wr.heap.size, 0, none⟩ : Addr).add i = ⟨wr.heap.size, i, none⟩ by unfold Addr.add; split <;> simp_all] at this
          have HBQ := hid (hbq.out.trans (hbA.mono hbq.out.size))
          have hzA : wr.heap.size < (wr.alloc (.cells #[.string (bs g.name), .int .i64 (g.at' : Int), .slice a2 g.more.length c2, .pointer (some ⟨b, 0, none⟩)] 54)).heap.size := by simp
          have HCO := hid (containsF_any 49 c j #[.pointer (some ⟨wr.heap.size, 0, none⟩)] (some ⟨kb, 0, none⟩) fs (fun h => h.name == g.name) (wr.alloc (.cells #[.string (bs g.name), .int .i64 (g.at' : Int), .slice a2 g.more.length c2, .pointer (some ⟨b, 0, none⟩)] 54))
            (by have := HN.out; omega) (by have := HN.out; omega) (HL2.out.below HBQ.out) (entersF Tryz.func49 (by kernel_rfl) (by kernel_rfl))
            (fun W g' a' c' b' hW => same1_any wr.heap.size g' g.name a' c' b' W ((hW.cell (p := ⟨wr.heap.size, 0, none⟩) hzA).trans (HF.out 0 _ rfl))))
          clear hbA c0 c1 c2' c3 hbq HBW
          generalize wr.alloc (.cells #[.string (bs g.name), .int .i64 (g.at' : Int), .slice a2 g.more.length c2, .pointer (some ⟨b, 0, none⟩)] 54) = wA at *
          refine HCO.out.mono ?_
          rintro e wB ⟨rfl, hbB⟩
          have HBB := hid (HBQ.out.trans (hbB.mono HBQ.out.size))
          have f0 := (hbB.cell (p := ⟨wr.heap.size, 0, none⟩) hzA).trans (HF.out 0 _ rfl)
          have f1 := (hbB.cell (p := ⟨wr.heap.size, 1, none⟩) hzA).trans (HF.out 1 _ rfl)
          have f2 := (hbB.cell (p := ⟨wr.heap.size, 2, none⟩) hzA).trans (HF.out 2 _ rfl)
          have f3 := (hbB.cell (p := ⟨wr.heap.size, 3, none⟩) hzA).trans (HF.out 3 _ rfl)
          have HBW := hid (hbel.out.trans (HBB.out.mono hbel.out.size))
          clear hbB HCO HF HBQ hzA
          cases hE : (fs.take j).any (fun h => h.name == g.name) with
          | true =>
            have hre : res = some (4, g.at') := by
              have h1 := HCK.out
              rw [if_pos hE] at h1
              rw [hres.out]
              unfold ckn
              rw [h1]
            subst hre
            clear hE HCK
            go_wp2_with fail
            exact ⟨rfl, HRP.out _ _ ⟨HBW.out, rfl⟩⟩
          | false =>
            have h1 := HCK.out
            rw [if_neg (by simp [hE])] at h1
            have HC2 := hid h1
            have HCW := hid (checkWithin_any (sgF fs) w.heap.size g a2 c2 b M wB (NmB.keep (B := fun x => 0 ≤ x) (B' := fun x => 0 ≤ x) HND.out (fun x hx hl => ⟨hx, HBB.out.block x hl⟩)) (HPD.out.below HBB.out) HFO.out.2.2.2 HFO.out.2.1 HFO.out.2.2.1 (hM.out.below HBB.out) HMS.out)
            clear hE HCK h1
            cases hcw : ckw (sgF fs) g with
            | none =>
              rw [hcw] at HC2 HCW
              clear hcw
              go_wp2_with fail
              refine HCW.out.mono ?_
              rintro e wC ⟨hbC, v, rfl⟩
              have HBC := hid (HBB.out.trans (hbC.mono HBB.out.size))
              clear hbC HCW
              go_wp2_with fail
              go_roundw
              case rel => exact ⟨j + 1, by omega, by go_num, HC2, HBC⟩
              case measure => simp [intOf]; omega
            | some y =>
              rw [hcw] at HC2 HCW
              have hre : res = some y := by
                rw [hres.out]
                unfold ckn
                rw [HC2.out]
              subst hre
              clear hcw
              go_wp2_with fail
              refine HCW.out.mono ?_
              rintro e wC ⟨hbC, rfl⟩
              exact ⟨rfl, HRP.out _ _ ⟨HBW.out.trans (hbC.mono HBW.out.size), rfl⟩⟩
        · obtain rfl : j = k := by omega
          have hlj2 : ¬ (j : Int) < (j : Int) := by omega
          have hck2 := hck.out
          rw [HN.out, List.drop_length, ckl] at hck2
          have HCO := hid (containsF_any 51 c j #[] a fs (fun h => h.name == mainW) wr (by have := HN.out; omega) (by have := HN.out; omega) (HL2.out.below hbq.out) (entersF Tryz.func51 (by kernel_rfl) (by kernel_rfl)) (fun W g' a' c' b' _ => isMain_any g' a' c' b' W))
          have hE : (fs.take j).any (fun h => h.name == mainW) = fs.any (fun h => h.name == mainW) := by rw [HN.out, List.take_length]
          rw [hE] at HCO
          have HRE : Hid (res = if fs.any (fun h => h.name == mainW) then none else some (6, T.size)) := by
            unfold Hid
            rw [hres.out]
            unfold ckn
            rw [hck2]
          clear hE hck hck2 hbq
          generalize fs.any (fun h => h.name == mainW) = E at *
          go_wp2_with fail
          refine HCO.out.mono ?_
          rintro e wC ⟨rfl, hbC⟩
          have HBC := hid (HBW.out.trans (hbC.mono HBW.out.size))
          clear hbC HCO
          cases E with
          | true =>
            have hre := HRE.out
            simp at hre
            subst hre
            clear HRE
            go_wp2_with fail
            go_end0
            exact HRP.out _ _ ⟨HBC.out, _, rfl⟩
          | false =>
            have hre := HRE.out
            simp at hre
            subst hre
            clear HRE
            go_wp2_with fail
            exact ⟨rfl, HRP.out _ _ ⟨HBC.out, rfl⟩⟩

end Go.Proofs.YthemehdcakimgaiGreatDoor

namespace Go.Proofs.YthemehdcakimgaiGreatDoor

/-- a name that may stand in a program -/
def NmOk (nm : List UInt8) : Prop := nm ≠ [] ∧ nm.length ≤ 16 ∧ wkd nm = 2 ∧ nm.all inWd = true
/-- how a part may look -/
def shp (k : Nat) (nm : List UInt8) (n m : Nat) : Prop :=
  (k = 0 ∧ nm = [] ∧ n ≤ 9223372036854775807 ∧ m = 0) ∨ (k = 1 ∧ NmOk nm ∧ n = 0 ∧ m = 0) ∨ (k = 2 ∧ NmOk nm ∧ n = 0 ∧ m ≤ 4000) ∨ (k = 3 ∧ nm = [] ∧ n = 0 ∧ m = 1) ∨ (4 ≤ k ∧ k ≤ 8 ∧ nm = [] ∧ n = 0 ∧ m = 2) ∨ (k = 9 ∧ NmOk nm ∧ n = 0 ∧ m = 2) ∨ (10 ≤ k ∧ k ≤ 11 ∧ nm = [] ∧ n = 0 ∧ m = 3)
mutual
/-- a tree that is well formed -/
def TW : Tr → Prop
  | .node k nm _ n kids => shp k nm n kids.length ∧ TWs kids
def TWs : List Tr → Prop
  | [] => True
  | t :: r => TW t ∧ TWs r
end
theorem TWs.app : ∀ {xs ys : List Tr}, TWs xs → TWs ys → TWs (xs ++ ys)
  | [], _, _, h => h
  | _ :: _, _, hx, hy => ⟨hx.1, TWs.app hx.2 hy⟩
mutual
theorem TW.tok : ∀ (t : Tr), TW t → TOk t
  | .node k nm at' n kids, h => by
    obtain ⟨h1, h2⟩ := h
    refine ⟨?_, ?_, TWs.toks kids h2⟩
    · rcases h1 with h | h | h | h | h | h | h
      · rw [h.2.1]; simp
      · have := h.2.1.2.1; omega
      · have := h.2.1.2.1; omega
      · rw [h.2.1]; simp
      · rw [h.2.2.1]; simp
      · have := h.2.1.2.1; omega
      · rw [h.2.2.1]; simp
    · rcases h1 with h | h | h | h | h | h | h <;> omega
theorem TWs.toks : ∀ (ts : List Tr), TWs ts → TOks ts
  | [], _ => trivial
  | t :: r, h => ⟨TW.tok t h.1, TWs.toks r h.2⟩
end
/-- behind a place and so, if it is a result -/
def Res.Al {α : Type} (N a : Nat) (P : α → Nat → Prop) : Res α → Prop
  | .ok x j => (a ≤ j ∧ j ≤ N) ∧ P x j
  | .bad _ _ => True
  | .out => True
theorem Res.Fx.al {α : Type} {N a : Nat} {r : Res α} (h : r.Fx N a) : r.Al N a (fun _ _ => True) := by
  cases r with
  | ok x j => exact ⟨h, trivial⟩
  | bad e at' => trivial
  | out => trivial
theorem Res.Al.bind {α β : Type} {N a b : Nat} {P : α → Nat → Prop} {Q : β → Nat → Prop} {r : Res α} {f : α → Nat → Res β} (h : r.Al N a P) (hf : ∀ x j, P x j → a ≤ j → j ≤ N → (f x j).Al N b Q) : (r.bind f).Al N b Q := by
  cases r with
  | ok x j => exact hf x j h.2 h.1.1 h.1.2
  | bad e at' => trivial
  | out => trivial
theorem Res.Al.mono {α : Type} {N a b : Nat} {P : α → Nat → Prop} {r : Res α} (h : r.Al N a P) (hb : b ≤ a) : r.Al N b P := by
  cases r with
  | ok x j => exact ⟨⟨Nat.le_trans hb h.1.1, h.1.2⟩, h.2⟩
  | bad e at' => trivial
  | out => trivial
theorem tok_two (L : List UInt8) (a : Nat) (h : (tok L a).kind = 2) : (tok L a).text ≠ [] ∧ wkd (tok L a).text = 2 ∧ (tok L a).text.all inWd = true := by
  unfold tok at h ⊢
  generalize blank (L.drop a) = r at h ⊢
  unfold tokR at h ⊢
  by_cases hr : r = []
  · rw [if_pos hr] at h; cases h
  · rw [if_neg hr] at h ⊢
    by_cases ht : r.takeWhile inWd ≠ []
    · rw [if_pos ht] at h ⊢
      exact ⟨ht, h, List.all_takeWhile⟩
    · rw [if_neg ht] at h
      have := (sgn_two r).1.2.1
      simp at h
      omega
theorem pTake_al (L : List UInt8) (k a : Nat) (h : a ≤ L.length) (hk : k ≠ 1) : (pTake L k a).Al L.length (a + 1) (fun _ _ => True) := (pTake_fx L k a h hk).al
theorem pEnter_al (L : List UInt8) (k a l : Nat) (h : a ≤ L.length) (hk : k ≠ 1) : (pEnter L k a l).Al L.length (a + 1) (fun _ _ => True) := (pEnter_fx L k a l h hk).al
theorem pName_al (L : List UInt8) (a : Nat) (h : a ≤ L.length) : (pName L a).Al L.length (a + 1) (fun x _ => NmOk x.1) := by
  have h1 := pName_fx L a h
  revert h1
  unfold pName pTake
  by_cases hk : (tok L a).kind = 2
  · rw [if_pos hk]
    have h2 := tok_two L a hk
    show (Res.Fx _ _ (if _ then _ else _)) → Res.Al _ _ _ (if _ then _ else _)
    split
    · exact fun _ => trivial
    · exact fun h1 => ⟨h1, h2.1, by show (tok L a).text.length ≤ 16; omega, h2.2.1, h2.2.2⟩
  · rw [if_neg hk]
    exact fun _ => trivial
theorem pNum_al (L : List UInt8) (a : Nat) (h : a ≤ L.length) : (pNum L a).Al L.length (a + 1) (fun x _ => TW x) := by
  have h1 := pNum_fx L a h
  revert h1
  unfold pNum pTake
  by_cases hk : (tok L a).kind = 3
  · rw [if_pos hk]
    show (Res.Fx _ _ (if _ then _ else _)) → Res.Al _ _ _ (if _ then _ else _)
    split
    · exact fun _ => trivial
    · exact fun h1 => ⟨h1, .inl ⟨rfl, rfl, by omega, rfl⟩, trivial⟩
  · rw [if_neg hk]
    exact fun _ => trivial

/-- what is read is well formed -/
theorem p_al (L : List UInt8) (hL : L.length ≤ 4000) : ∀ (f : Nat),
    (∀ a l, a ≤ L.length → (pExpr L f a l).Al L.length (a + 1) (fun x _ => TW x)) ∧
    (∀ a l, a ≤ L.length → (pSum L f a l).Al L.length (a + 1) (fun x _ => TW x)) ∧
    (∀ x a l, TW x → a ≤ L.length → (pSumL L f x a l).Al L.length a (fun x _ => TW x)) ∧
    (∀ a l, a ≤ L.length → (pProd L f a l).Al L.length (a + 1) (fun x _ => TW x)) ∧
    (∀ x a l, TW x → a ≤ L.length → (pProdL L f x a l).Al L.length a (fun x _ => TW x)) ∧
    (∀ a l, a ≤ L.length → (pPart L f a l).Al L.length (a + 1) (fun x _ => TW x)) ∧
    (∀ a l, a ≤ L.length → (pList L f a l).Al L.length (a + 1) (fun xs j => TWs xs ∧ xs.length ≤ j)) ∧
    (∀ xs a l, TWs xs → xs.length ≤ a → a ≤ L.length → (pArgs L f xs a l).Al L.length a (fun xs j => TWs xs ∧ xs.length ≤ j))
  | 0 => by
    refine ⟨?_, ?_, ?_, ?_, ?_, ?_, ?_, ?_⟩
    all_goals (intros; first | (rw [pExpr]; trivial) | (rw [pSum]; trivial) | (rw [pSumL]; trivial) | (rw [pProd]; trivial) | (rw [pProdL]; trivial) | (rw [pPart]; trivial) | (rw [pList]; trivial) | (rw [pArgs]; trivial))
  | f + 1 => by
    obtain ⟨iE, iS, iSL, iP, iPL, iX, iLs, iA⟩ := p_al L hL f
    have two : ∀ k (x y : Tr), 4 ≤ k → k ≤ 8 → TW x → TW y → TW (.node k [] 0 0 [x, y]) := fun k x y h1 h2 hx hy => ⟨.inr (.inr (.inr (.inr (.inl ⟨h1, h2, rfl, rfl, rfl⟩)))), hx, hy, trivial⟩
    have three : ∀ k (x y z : Tr), 10 ≤ k → k ≤ 11 → TW x → TW y → TW z → TW (.node k [] 0 0 [x, y, z]) := fun k x y z h1 h2 hx hy hz => ⟨.inr (.inr (.inr (.inr (.inr (.inr ⟨h1, h2, rfl, rfl, rfl⟩))))), hx, hy, hz, trivial⟩
    refine ⟨?_, ?_, ?_, ?_, ?_, ?_, ?_, ?_⟩
    · intro a l ha
      rw [pExpr]
      split
      · refine (pEnter_al L 5 a l ha (by decide)).bind fun _ a1 _ h1 m1 => ?_
        refine (pName_al L a1 m1).bind fun nm a2 hnm h2 m2 => ?_
        refine (pTake_al L 14 a2 m2 (by decide)).bind fun _ a3 _ h3 m3 => ?_
        refine (iE a3 _ m3).bind fun x a4 hx h4 m4 => ?_
        refine (pTake_al L 13 a4 m4 (by decide)).bind fun _ a5 _ h5 m5 => ?_
        refine (iE a5 _ m5).bind fun y a6 hy h6 m6 => ?_
        exact ⟨⟨by omega, m6⟩, .inr (.inr (.inr (.inr (.inr (.inl ⟨rfl, hnm, rfl, rfl⟩))))), hx, hy, trivial⟩
      · split
        · refine (pEnter_al L 6 a l ha (by decide)).bind fun _ a1 _ h1 m1 => ?_
          refine (iS a1 _ m1).bind fun x a2 hx h2 m2 => ?_
          refine (pTake_al L 15 a2 m2 (by decide)).bind fun _ a3 _ h3 m3 => ?_
          refine (iS a3 _ m3).bind fun y a4 hy h4 m4 => ?_
          refine (pTake_al L 13 a4 m4 (by decide)).bind fun _ a5 _ h5 m5 => ?_
          refine (iE a5 _ m5).bind fun z a6 hz h6 m6 => ?_
          exact ⟨⟨by omega, m6⟩, three _ _ _ _ (by decide) (by decide) hx hy hz⟩
        · split
          · refine (pEnter_al L 7 a l ha (by decide)).bind fun _ a1 _ h1 m1 => ?_
            refine (iE a1 _ m1).bind fun x a2 hx h2 m2 => ?_
            refine (pTake_al L 8 a2 m2 (by decide)).bind fun _ a3 _ h3 m3 => ?_
            refine (iE a3 _ m3).bind fun y a4 hy h4 m4 => ?_
            refine (pTake_al L 9 a4 m4 (by decide)).bind fun _ a5 _ h5 m5 => ?_
            refine (iE a5 _ m5).bind fun z a6 hz h6 m6 => ?_
            exact ⟨⟨by omega, m6⟩, three _ _ _ _ (by decide) (by decide) hx hy hz⟩
          · refine (iS a l ha).bind fun x a1 hx h1 m1 => ?_
            split
            · rename_i hk
              obtain ⟨h2, m2⟩ := nx_fw L a1 15 m1 hk (by decide)
              refine (iS _ l m2).bind fun y a3 hy h3 m3 => ?_
              exact ⟨⟨by omega, m3⟩, two _ _ _ (by decide) (by decide) hx hy⟩
            · exact ⟨⟨h1, m1⟩, hx⟩
    · intro a l ha
      rw [pSum]
      refine (iP a l ha).bind fun x a1 hx h1 m1 => ?_
      exact (iSL x a1 l hx m1).mono h1
    · intro x a l hx ha
      rw [pSumL]
      split
      · rename_i hk
        obtain ⟨h2, m2⟩ := nx_fw L a 16 ha hk (by decide)
        refine (iP _ l m2).bind fun y a3 hy h3 m3 => ?_
        exact (iSL _ a3 l (two _ _ _ (by decide) (by decide) hx hy) m3).mono (by omega)
      · split
        · rename_i hk
          obtain ⟨h2, m2⟩ := nx_fw L a 17 ha hk (by decide)
          refine (iP _ l m2).bind fun y a3 hy h3 m3 => ?_
          exact (iSL _ a3 l (two _ _ _ (by decide) (by decide) hx hy) m3).mono (by omega)
        · exact ⟨⟨Nat.le_refl _, ha⟩, hx⟩
    · intro a l ha
      rw [pProd]
      refine (iX a l ha).bind fun x a1 hx h1 m1 => ?_
      exact (iPL x a1 l hx m1).mono h1
    · intro x a l hx ha
      rw [pProdL]
      split
      · rename_i hk
        obtain ⟨h2, m2⟩ := nx_fw L a 18 ha hk (by decide)
        refine (iX _ l m2).bind fun y a3 hy h3 m3 => ?_
        exact (iPL _ a3 l (two _ _ _ (by decide) (by decide) hx hy) m3).mono (by omega)
      · split
        · rename_i hk
          obtain ⟨h2, m2⟩ := nx_fw L a 19 ha hk (by decide)
          refine (iX _ l m2).bind fun y a3 hy h3 m3 => ?_
          exact (iPL _ a3 l (two _ _ _ (by decide) (by decide) hx hy) m3).mono (by omega)
        · exact ⟨⟨Nat.le_refl _, ha⟩, hx⟩
    · intro a l ha
      rw [pPart]
      split
      · refine (pName_al L a ha).bind fun nm a1 hnm h1 m1 => ?_
        split
        · refine (iLs a1 l m1).bind fun xs a2 hxs h2 m2 => ?_
          exact ⟨⟨by omega, m2⟩, .inr (.inr (.inl ⟨rfl, hnm, rfl, by have := hxs.2; omega⟩)), hxs.1⟩
        · exact ⟨⟨h1, m1⟩, .inr (.inl ⟨rfl, hnm, rfl, rfl⟩), trivial⟩
      · split
        · refine (pEnter_al L 10 a l ha (by decide)).bind fun _ a1 _ h1 m1 => ?_
          refine (iE a1 _ m1).bind fun x a2 hx h2 m2 => ?_
          refine (pTake_al L 11 a2 m2 (by decide)).bind fun _ a3 _ h3 m3 => ?_
          exact ⟨⟨by omega, m3⟩, hx⟩
        · split
          · refine (pEnter_al L 17 a l ha (by decide)).bind fun _ a1 _ h1 m1 => ?_
            refine (iX a1 _ m1).bind fun x a2 hx h2 m2 => ?_
            exact ⟨⟨by omega, m2⟩, .inr (.inr (.inr (.inl ⟨rfl, rfl, rfl, rfl⟩))), hx, trivial⟩
          · exact pNum_al L a ha
    · intro a l ha
      rw [pList]
      refine (pEnter_al L 10 a l ha (by decide)).bind fun _ a1 _ h1 m1 => ?_
      refine Res.Al.bind (a := a1) (P := fun xs j => TWs xs ∧ xs.length ≤ j) ?_ fun xs a3 hxs h3 m3 => ?_
      · split
        · exact ⟨⟨Nat.le_refl _, m1⟩, trivial, Nat.zero_le _⟩
        · refine (iE a1 _ m1).bind fun x a2 hx h2 m2 => ?_
          exact (iA [x] a2 _ ⟨hx, trivial⟩ (by simp; omega) m2).mono (by omega)
      · refine (pTake_al L 11 a3 m3 (by decide)).bind fun _ a4 _ h4 m4 => ?_
        exact ⟨⟨by omega, m4⟩, hxs.1, by have := hxs.2; omega⟩
    · intro xs a l hxs hxl ha
      rw [pArgs]
      split
      · rename_i hk
        obtain ⟨h2, m2⟩ := nx_fw L a 12 ha hk (by decide)
        refine (iE _ l m2).bind fun x a3 hx h3 m3 => ?_
        exact (iA (xs ++ [x]) a3 l (hxs.app (ys := [x]) ⟨hx, trivial⟩) (by rw [List.length_append]; simp; omega) m3).mono (by omega)
      · exact ⟨⟨Nat.le_refl _, ha⟩, hxs, hxl⟩
theorem pNames_al (L : List UInt8) : ∀ (f : Nat) (xs : List (List UInt8 × Nat)) (a : Nat), (∀ x, x ∈ xs → NmOk x.1) → xs.length ≤ a → a ≤ L.length → (pNames L f xs a).Al L.length a (fun ys j => (∀ x, x ∈ ys → NmOk x.1) ∧ ys.length ≤ j)
  | 0, _, _, _, _, _ => by rw [pNames]; trivial
  | f + 1, xs, a, hxs, hxl, ha => by
    rw [pNames]
    split
    · rename_i hk
      obtain ⟨h2, m2⟩ := nx_fw L a 12 ha hk (by decide)
      refine (pName_al L _ m2).bind fun x j hx h3 m3 => ?_
      refine (pNames_al L f _ j (fun y hy => ?_) (by rw [List.length_append]; simp; omega) m3).mono (by omega)
      rcases List.mem_append.1 hy with hy | hy
      · exact hxs y hy
      · rw [List.mem_singleton.1 hy]; exact hx
    · exact ⟨⟨Nat.le_refl _, ha⟩, hxs, hxl⟩
theorem pBrack_al (L : List UInt8) (f a : Nat) (ha : a ≤ L.length) : (pBrack L f a).Al L.length (a + 1) (fun ys j => (∀ x, x ∈ ys → NmOk x.1) ∧ ys.length ≤ j) := by
  unfold pBrack
  refine (pTake_al L 10 a ha (by decide)).bind fun _ a1 _ h1 m1 => ?_
  refine Res.Al.bind (a := a1) (P := fun ys j => (∀ x, x ∈ ys → NmOk x.1) ∧ ys.length ≤ j) ?_ fun xs a3 hxs h3 m3 => ?_
  · split
    · exact ⟨⟨Nat.le_refl _, m1⟩, by simp, Nat.zero_le _⟩
    · refine (pName_al L a1 m1).bind fun x a2 hx h2 m2 => ?_
      exact (pNames_al L f _ a2 (by simpa using hx) (by simp; omega) m2).mono (by omega)
  · refine (pTake_al L 11 a3 m3 (by decide)).bind fun _ a4 _ h4 m4 => ?_
    exact ⟨⟨by omega, m4⟩, hxs.1, by have := hxs.2; omega⟩
/-- a function that is well formed -/
def FW (g : FnT) : Prop := NmOk g.name ∧ (∀ x, x ∈ g.more → NmOk x.1) ∧ g.more.length ≤ 4000 ∧ TW g.body
theorem FW.ok {g : FnT} (h : FW g) : FOk g := ⟨by have := h.1.2.1; omega, h.2.2.1, fun x hx => by have := (h.2.1 x hx).2.1; omega, TW.tok _ h.2.2.2⟩
theorem pFun_al (L : List UInt8) (hL : L.length ≤ 4000) (f a : Nat) (ha : a ≤ L.length) : (pFun L f a).Al L.length (a + 1) (fun g _ => FW g) := by
  unfold pFun
  refine (pTake_al L 4 a ha (by decide)).bind fun _ a1 _ h1 m1 => ?_
  refine (pName_al L a1 m1).bind fun nm a2 hnm h2 m2 => ?_
  refine (pBrack_al L f a2 m2).bind fun more a3 hmo h3 m3 => ?_
  refine (pTake_al L 14 a3 m3 (by decide)).bind fun _ a4 _ h4 m4 => ?_
  refine ((p_al L hL f).1 a4 0 m4).bind fun x a5 hx h5 m5 => ?_
  exact ⟨⟨by omega, m5⟩, hnm, hmo.1, by have := hmo.2; show more.length ≤ 4000; omega, hx⟩
theorem pProg_al (L : List UInt8) (hL : L.length ≤ 4000) : ∀ (f : Nat) (gs : List FnT) (a : Nat), (∀ g, g ∈ gs → FW g) → gs.length ≤ a → a ≤ L.length → (pProg L f gs a).Al L.length a (fun fs j => (∀ g, g ∈ fs → FW g) ∧ fs.length ≤ j)
  | 0, _, _, _, _, _ => by rw [pProg]; trivial
  | f + 1, gs, a, hgs, hgl, ha => by
    rw [pProg]
    split
    · exact ⟨⟨Nat.le_refl _, ha⟩, hgs, hgl⟩
    · refine (pFun_al L hL f a ha).bind fun g j hg h3 m3 => ?_
      refine (pProg_al L hL f _ j (fun y hy => ?_) (by rw [List.length_append]; simp; omega) m3).mono (by omega)
      rcases List.mem_append.1 hy with hy | hy
      · exact hgs y hy
      · rw [List.mem_singleton.1 hy]; exact hg

end Go.Proofs.YthemehdcakimgaiGreatDoor
