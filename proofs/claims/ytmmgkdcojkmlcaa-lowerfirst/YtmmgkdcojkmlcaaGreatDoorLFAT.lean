/- The reference of programs as text: need. The reference of programs as text: if. The reference of programs as text: expr. The reference of programs as text: sum. The reference of programs as text: product. The reference of programs as text: parts of a call in a row. -/
import Derived.Test.YtmmgkdcojkmlcaaGreatDoorLFAS
import Derived.Test.YtmmgkdcojkmlcaaGreatDoorLFAD
namespace Go.Proofs.YtmmgkdcojkmlcaaGreatDoor
open Go.RowKit

set_option maxRecDepth 100000 in
set_option maxHeartbeats 2000000 in
theorem rexpr_need (R : Nat) (T : ByteArray) (f j l : Nat) (w : World) (hE : EXP R T f) (hS : SUM R T f) (hg : RgG w R T j l) (hk : (tok (by' T) j).kind = 6) (q : Res Tr) (hq : q = pExpr (by' T) (f + 1) j l) (hro : q ≠ .out) :
    Calls Tryz.prog 41 #[.pointer (some ⟨R, 0, none⟩)] w (XR R T q l w) := by
  have hmx : Tryz.prog.follows .mixedOrders = true := by kernel_rfl
  have htx := (tok_spl (by' T) j 6 (by decide) (by decide)).1 hk
  have hlt := hg.h.lt
  have c1 := hg.h.c1
  have c2 := hg.h.c2
  have c4 := hg.h.c4
  have t5 : ((bs (tok (by' T) j).text).toList == [108, 101, 116]) = false := by rw [bs_list, htx]; rfl
  have t6 : ((bs (tok (by' T) j).text).toList == [110, 101, 101, 100]) = true := by rw [bs_list, htx]; rfl
  have HTX : Hid (bs (tok (by' T) j).text = bs (opS 10)) := by unfold Hid; rw [htx]; rfl
  obtain ⟨q1, hq1⟩ : ∃ q1, q1 = pEnter (by' T) 6 j l := ⟨_, rfl⟩
  obtain ⟨q2, hq2⟩ : ∃ q2, q2 = q1.cr (fun a => pSum (by' T) f a (l + 1)) := ⟨_, rfl⟩
  obtain ⟨q3, hq3⟩ : ∃ q3, q3 = q2.wn (by' T) 15 := ⟨_, rfl⟩
  obtain ⟨q4, hq4⟩ : ∃ q4, q4 = q3.cr (fun a => pSum (by' T) f a (l + 1)) := ⟨_, rfl⟩
  obtain ⟨q5, hq5⟩ : ∃ q5, q5 = q4.wn (by' T) 13 := ⟨_, rfl⟩
  obtain ⟨q6, hq6⟩ : ∃ q6, q6 = q5.cr (fun a => pExpr (by' T) f a (l + 1)) := ⟨_, rfl⟩
  have hqq : q = q6.bind fun z a => .ok (.node 10 [] 0 0 [z.1.1.2, z.1.2, z.2]) a := by
    rw [hq, pExpr, if_neg (by omega), if_pos hk, hq6, hq5, hq4, hq3, hq2, hq1]
    cases pEnter (by' T) 6 j l with
    | out => rfl
    | bad e a => rfl
    | ok _ a1 =>
      simp only [Res.cr, Res.wn, Res.bind]
      cases pSum (by' T) f a1 (l + 1) with
      | out => rfl
      | bad e a => rfl
      | ok nm a2 =>
        dsimp only
        cases pTake (by' T) 15 a2 with
        | out => rfl
        | bad e a => rfl
        | ok _ a3 =>
          dsimp only
          cases pSum (by' T) f a3 (l + 1) with
          | out => rfl
          | bad e a => rfl
          | ok x a4 =>
            dsimp only
            cases pTake (by' T) 13 a4 with
            | out => rfl
            | bad e a => rfl
            | ok _ a5 =>
              dsimp only
              cases pExpr (by' T) f a5 (l + 1) with
              | out => rfl
              | bad e a => rfl
              | ok y a6 => rfl
  have n6 : q6 ≠ .out := Res.out_bind (by rw [← hqq]; exact hro)
  have n5 : q5 ≠ .out := Res.out_cr (by rw [← hq6]; exact n6)
  have n4 : q4 ≠ .out := Res.out_wn (by rw [← hq5]; exact n5)
  have n3 : q3 ≠ .out := Res.out_cr (by rw [← hq4]; exact n4)
  have n2 : q2 ≠ .out := Res.out_wn (by rw [← hq3]; exact n3)
  have HE2 := hid (fun (W : World) (h : RgW W R T q1 (l + 1)) => hS _ q1 (l + 1) W h (Res.cr_out (by rw [← hq2]; exact n2)))
  have HWA := hid (fun (W : World) (h : RgW W R T q2 (l + 1)) => rwant_any R (l + 1) 15 T ⟨#[61, 61]⟩ q2 W h (by decide) (by decide) rfl)
  have HE4 := hid (fun (W : World) (h : RgW W R T q3 (l + 1)) => hS _ q3 (l + 1) W h (Res.cr_out (by rw [← hq4]; exact n4)))
  have HWB := hid (fun (W : World) (h : RgW W R T q4 (l + 1)) => rwant_any R (l + 1) 13 T ⟨#[59]⟩ q4 W h (by decide) (by decide) rfl)
  have HE6 := hid (fun (W : World) (h : RgW W R T q5 (l + 1)) => hE _ q5 (l + 1) W h (Res.cr_out (by rw [← hq6]; exact n6)))
  have HQ2 := hid hq2
  have HQ3 := hid hq3
  have HQ4 := hid hq4
  have HQ5 := hid hq5
  have HQ6 := hid hq6
  have HQQ := hid hqq
  obtain ⟨W0, hW0⟩ : ∃ W0, W0 = (w.alloc (.cells #[.string (bs (tok (by' T) j).text), .string ⟨#[]⟩, .int .i64 0, .int .i64 ((tok (by' T) j).at' : Int), .slice none 0 0] 126)).drew := ⟨_, rfl⟩
  have hb0 : Below w.heap.size w W0 := by rw [hW0]; exact ((Below.refl w.heap.size w).alloc (Nat.le_refl _) _).drew
  have hg0 : RgG W0 R T j l := hg.keep (hb0.block _ hlt)
  have HX0 : Hid (LS R T w w.heap.size W0 (.ok () j : Res Unit) l (bs (tok (by' T) j).text) ⟨#[]⟩ ((tok (by' T) j).at' : Int) (.slice none 0 0)) := ⟨Fr.below hb0 (Nat.le_of_lt hlt), Or.inl hg0, by rw [hW0]; exact heap_alloc_new w _, Nat.le_refl _, hlt⟩
  have HDP := hid (rdeep_any R j l 6 T W0 hg0 hk)
  rw [← hq1] at HDP
  have e4 := hg0.h.c4
  have e2 := hg0.h.c2
  obtain ⟨X, hX⟩ : ∃ X, X = w.heap.size := ⟨_, rfl⟩
  rw [← hX] at HX0
  have HXX := hid hX
  generalize bs (tok (by' T) j).text = tx at *
  generalize hA : ((tok (by' T) j).at' : Int) = A at *
  clear hA hE hS hg hk hq hro htx hq1 hq2 hq3 hq4 hq5 hq6 hqq n6 n5 n4 n3 n2 hb0 hg0
  go_enter Tryz.func41, Tryz.ntmps41
  go_wp2_with fail
  go_still_tail 9, hmx
  go_wp2_with fail
  rw [← hW0, ← hX]
  clear hW0 hX
  refine HDP.out.mono ?_
  rintro e w1 ⟨b, rfl, hf1, hm1⟩
  have HX1 := hid (HX0.out.step hf1 hm1)
  clear hf1 hm1 e2 e4 c1 c2 c4
  go_wp2_with fail
  refine (HE2.out w1 HX1.out.rm).mono ?_
  rintro e w3 ⟨v0, rfl, hf3, hm3, ht3⟩
  have HX3 : Hid (LS R T w X w3 q2 (l + 1) tx ⟨#[]⟩ A (.slice none 0 0)) := by unfold Hid; rw [HQ2.out]; exact HX1.out.step hf3 hm3.cr
  have HT3 := hid ht3
  have HL1 := hid HX1.out.lt
  have hR1 : R < w1.heap.size := HX1.out.rm.lt
  clear hf3 hm3 ht3
  go_wp2_with fail
  refine (HWA.out w3 HX3.out.rm).mono ?_
  rintro e w5 ⟨rfl, hf5, hm5⟩
  have HX5 : Hid (LS R T w X w5 q3 (l + 1) tx ⟨#[]⟩ A (.slice none 0 0)) := by unfold Hid; rw [HQ3.out]; exact HX3.out.step hf5 hm5
  have HT5 : Hid (∀ t j, (q1.bind fun _ a => pSum (by' T) f a (l + 1)) = .ok t j → XT w1.heap.size w5 t (.pointer v0)) := fun t j h => (HT3.out t j h).fr hf5 hR1
  clear hf5 hm5 HT3
  go_wp2_with fail
  refine (HE4.out w5 HX5.out.rm).mono ?_
  rintro e w6 ⟨va, rfl, hf6, hm6, ht6⟩
  have HX6 : Hid (LS R T w X w6 q4 (l + 1) tx ⟨#[]⟩ A (.slice none 0 0)) := by unfold Hid; rw [HQ4.out]; exact HX5.out.step hf6 hm6.cr
  have HT6 := hid ht6
  have HL5 := hid HX5.out.lt
  have HT5b : Hid (∀ t j, (q1.bind fun _ a => pSum (by' T) f a (l + 1)) = .ok t j → XT w1.heap.size w6 t (.pointer v0)) := fun t j h => (HT5.out t j h).fr hf6 hR1
  clear hf6 hm6 ht6 HT5
  go_wp2_with fail
  refine (HWB.out w6 HX6.out.rm).mono ?_
  rintro e w7 ⟨rfl, hf7, hm7⟩
  have HX7 : Hid (LS R T w X w7 q5 (l + 1) tx ⟨#[]⟩ A (.slice none 0 0)) := by unfold Hid; rw [HQ5.out]; exact HX6.out.step hf7 hm7
  have hR5 : R < w5.heap.size := HX5.out.rm.lt
  have HT7 : Hid (∀ t j, (q3.bind fun _ a => pSum (by' T) f a (l + 1)) = .ok t j → XT w5.heap.size w7 t (.pointer va)) := fun t j h => (HT6.out t j h).fr hf7 hR5
  have HT7c : Hid (∀ t j, (q1.bind fun _ a => pSum (by' T) f a (l + 1)) = .ok t j → XT w1.heap.size w7 t (.pointer v0)) := fun t j h => (HT5b.out t j h).fr hf7 hR1
  clear hf7 hm7 HT6 HT5b
  go_wp2_with fail
  refine (HE6.out w7 HX7.out.rm).mono ?_
  rintro e w8 ⟨vb, rfl, hf8, hm8, ht8⟩
  have HX8 : Hid (LS R T w X w8 q6 (l + 1) tx ⟨#[]⟩ A (.slice none 0 0)) := by unfold Hid; rw [HQ6.out]; exact HX7.out.step hf8 hm8.cr
  have HT8 := hid ht8
  have HL7 := hid HX7.out.lt
  have HT7b : Hid (∀ t j, (q3.bind fun _ a => pSum (by' T) f a (l + 1)) = .ok t j → XT w5.heap.size w8 t (.pointer va)) := fun t j h => (HT7.out t j h).fr hf8 hR5
  have HT7d : Hid (∀ t j, (q1.bind fun _ a => pSum (by' T) f a (l + 1)) = .ok t j → XT w1.heap.size w8 t (.pointer v0)) := fun t j h => (HT7c.out t j h).fr hf8 hR1
  clear hf8 hm8 ht8 HT7 HT7c
  obtain ⟨W9, hW9⟩ : ∃ W9, w8.alloc (.cells #[.pointer v0, .pointer va, .pointer vb] 49) = W9 := ⟨_, rfl⟩
  have HX9 : Hid (LS R T w X W9 q6 (l + 1) tx ⟨#[]⟩ A (.slice none 0 0)) := by unfold Hid; rw [← hW9]; exact HX8.out.alloc _
  have HB9 : Hid (Below w8.heap.size w8 W9) := by unfold Hid; rw [← hW9]; exact (Below.refl _ _).alloc (Nat.le_refl _) _
  have HN9 : Hid (W9.heap[w8.heap.size]? = some (.cells #[.pointer v0, .pointer va, .pointer vb] 49 (0, 0))) := by unfold Hid; rw [← hW9]; exact heap_alloc_new w8 _
  have x4 := HX9.out.c4
  have y4 := HX9.out.fz 4
  obtain ⟨W10, hW10⟩ : ∃ W10, W9.setCell ⟨X, 4, none⟩ (.slice (some ⟨w8.heap.size, 0, none⟩) 3 3) = W10 := ⟨_, rfl⟩
  have HX10 : Hid (LS R T w X W10 q6 (l + 1) tx ⟨#[]⟩ A (.slice (some ⟨w8.heap.size, 0, none⟩) 3 3)) := by unfold Hid; rw [← hW10]; exact HX9.out.put4 _
  obtain ⟨d, dd, r3, hdd, s3, hX11⟩ := HX10.out.back
  have HX11 := hid hX11
  have hL8 : X < w8.heap.size := HX8.out.lt
  have HE : Hid (XR R T q l w (.returned (.pointer (some ⟨X, 0, none⟩))) (W10.setCell ⟨R, 3, none⟩ (.int .i64 dd))) := by
    refine ⟨_, rfl, HX11.out.fr, ?_, fun t jj ht => ?_⟩
    · rw [HQQ.out]
      exact HX11.out.rm.map _
    · rw [HQQ.out] at ht
      obtain ⟨z, a6, h6, ht⟩ := Res.bind_ok ht
      obtain ⟨⟨⟨u, x0⟩, xa⟩, xb⟩ := z
      injection ht with ht _
      rw [HQ6.out] at h6
      have k6 := HT8.out _ _ (Res.cr_of h6)
      obtain ⟨a5, h5, _⟩ := Res.cr_ok h6
      rw [HQ5.out] at h5
      obtain ⟨a4, h4⟩ := Res.wn_ok h5
      rw [HQ4.out] at h4
      have k4 := HT7b.out _ _ (Res.cr_of h4)
      obtain ⟨a3, h3, _⟩ := Res.cr_ok h4
      rw [HQ3.out] at h3
      obtain ⟨a2, h2⟩ := Res.wn_ok h3
      rw [HQ2.out] at h2
      have k2 := HT7d.out _ _ (Res.cr_of h2)
      have hRX : R < X := by have := HX8.out.hX; have := HX8.out.hR; omega
      have kk2 : XT w1.heap.size (W10.setCell ⟨R, 3, none⟩ (.int .i64 dd)) x0 (.pointer v0) := by
        refine (XT.put ?_ (by have := HL1.out; omega) 3 _)
        rw [← hW10]
        exact (k2.below HB9.out).put HL1.out 4 _
      have kk4 : XT w5.heap.size (W10.setCell ⟨R, 3, none⟩ (.int .i64 dd)) xa (.pointer va) := by
        refine (XT.put ?_ (by have := HL5.out; omega) 3 _)
        rw [← hW10]
        exact (k4.below HB9.out).put HL5.out 4 _
      have kk6 : XT w7.heap.size (W10.setCell ⟨R, 3, none⟩ (.int .i64 dd)) xb (.pointer vb) := by
        refine (XT.put ?_ (by have := HL7.out; omega) 3 _)
        rw [← hW10]
        exact (k6.below HB9.out).put HL7.out 4 _
      have hsz1 : w.heap.size ≤ w1.heap.size := HX1.out.fr.size
      have hsz5 : w.heap.size ≤ w5.heap.size := HX5.out.fr.size
      have hsz7 : w.heap.size ≤ w7.heap.size := HX7.out.fr.size
      have hsz8 : w.heap.size ≤ w8.heap.size := HX8.out.fr.size
      rw [← ht]
      refine ⟨X, some ⟨w8.heap.size, 0, none⟩, 3, A, rfl, HX8.out.hX, ?_, fun h => by omega, ?_⟩
      · have := HX11.out.xb
        rw [HTX.out] at this
        exact this
      · have hcell : ∀ i y, (#[Value.pointer v0, Value.pointer va, Value.pointer vb] : Array Value)[i]? = some y → (W10.setCell ⟨R, 3, none⟩ (.int .i64 dd)).cell? ⟨w8.heap.size, i, none⟩ = some y := fun i y hy => by
          rw [World.cell?_of_block (a := ⟨w8.heap.size, i, none⟩) (heap_setCell_other _ _ _ _ (by show w8.heap.size ≠ R; omega)), ← hW10, World.cell?_of_block (a := ⟨w8.heap.size, i, none⟩) (heap_setCell_other _ _ _ _ (by show w8.heap.size ≠ X; omega))]
          simp [World.cell?, HN9.out]
          simpa using hy
        exact ⟨⟨_, _, rfl, hsz8, hcell 0 _ rfl, kk2.mono hsz1⟩, ⟨_, _, rfl, hsz8, hcell 1 _ rfl, kk4.mono hsz5⟩, ⟨_, _, rfl, hsz8, hcell 2 _ rfl, kk6.mono hsz7⟩, trivial⟩
  clear hX11 HX11
  go_wp2_with fail
  go_ret
  exact HE.out

end Go.Proofs.YtmmgkdcojkmlcaaGreatDoor

namespace Go.Proofs.YtmmgkdcojkmlcaaGreatDoor
open Go.RowKit

set_option maxRecDepth 100000 in
set_option maxHeartbeats 2000000 in
theorem rexpr_if (R : Nat) (T : ByteArray) (f j l : Nat) (w : World) (hE : EXP R T f) (hg : RgG w R T j l) (hk : (tok (by' T) j).kind = 7) (q : Res Tr) (hq : q = pExpr (by' T) (f + 1) j l) (hro : q ≠ .out) :
    Calls Tryz.prog 41 #[.pointer (some ⟨R, 0, none⟩)] w (XR R T q l w) := by
  have hmx : Tryz.prog.follows .mixedOrders = true := by kernel_rfl
  have htx := (tok_spl (by' T) j 7 (by decide) (by decide)).1 hk
  have hlt := hg.h.lt
  have c1 := hg.h.c1
  have c2 := hg.h.c2
  have c4 := hg.h.c4
  have t5 : ((bs (tok (by' T) j).text).toList == [108, 101, 116]) = false := by rw [bs_list, htx]; rfl
  have t6 : ((bs (tok (by' T) j).text).toList == [110, 101, 101, 100]) = false := by rw [bs_list, htx]; rfl
  have t7 : ((bs (tok (by' T) j).text).toList == [105, 102]) = true := by rw [bs_list, htx]; rfl
  have HTX : Hid (bs (tok (by' T) j).text = bs (opS 11)) := by unfold Hid; rw [htx]; rfl
  obtain ⟨q1, hq1⟩ : ∃ q1, q1 = pEnter (by' T) 7 j l := ⟨_, rfl⟩
  obtain ⟨q2, hq2⟩ : ∃ q2, q2 = q1.cr (fun a => pExpr (by' T) f a (l + 1)) := ⟨_, rfl⟩
  obtain ⟨q3, hq3⟩ : ∃ q3, q3 = q2.wn (by' T) 8 := ⟨_, rfl⟩
  obtain ⟨q4, hq4⟩ : ∃ q4, q4 = q3.cr (fun a => pExpr (by' T) f a (l + 1)) := ⟨_, rfl⟩
  obtain ⟨q5, hq5⟩ : ∃ q5, q5 = q4.wn (by' T) 9 := ⟨_, rfl⟩
  obtain ⟨q6, hq6⟩ : ∃ q6, q6 = q5.cr (fun a => pExpr (by' T) f a (l + 1)) := ⟨_, rfl⟩
  have hqq : q = q6.bind fun z a => .ok (.node 11 [] 0 0 [z.1.1.2, z.1.2, z.2]) a := by
    rw [hq, pExpr, if_neg (by omega), if_neg (by omega), if_pos hk, hq6, hq5, hq4, hq3, hq2, hq1]
    cases pEnter (by' T) 7 j l with
    | out => rfl
    | bad e a => rfl
    | ok _ a1 =>
      simp only [Res.cr, Res.wn, Res.bind]
      cases pExpr (by' T) f a1 (l + 1) with
      | out => rfl
      | bad e a => rfl
      | ok nm a2 =>
        dsimp only
        cases pTake (by' T) 8 a2 with
        | out => rfl
        | bad e a => rfl
        | ok _ a3 =>
          dsimp only
          cases pExpr (by' T) f a3 (l + 1) with
          | out => rfl
          | bad e a => rfl
          | ok x a4 =>
            dsimp only
            cases pTake (by' T) 9 a4 with
            | out => rfl
            | bad e a => rfl
            | ok _ a5 =>
              dsimp only
              cases pExpr (by' T) f a5 (l + 1) with
              | out => rfl
              | bad e a => rfl
              | ok y a6 => rfl
  have n6 : q6 ≠ .out := Res.out_bind (by rw [← hqq]; exact hro)
  have n5 : q5 ≠ .out := Res.out_cr (by rw [← hq6]; exact n6)
  have n4 : q4 ≠ .out := Res.out_wn (by rw [← hq5]; exact n5)
  have n3 : q3 ≠ .out := Res.out_cr (by rw [← hq4]; exact n4)
  have n2 : q2 ≠ .out := Res.out_wn (by rw [← hq3]; exact n3)
  have HE2 := hid (fun (W : World) (h : RgW W R T q1 (l + 1)) => hE _ q1 (l + 1) W h (Res.cr_out (by rw [← hq2]; exact n2)))
  have HWA := hid (fun (W : World) (h : RgW W R T q2 (l + 1)) => rwant_any R (l + 1) 8 T ⟨#[116, 104, 101, 110]⟩ q2 W h (by decide) (by decide) rfl)
  have HE4 := hid (fun (W : World) (h : RgW W R T q3 (l + 1)) => hE _ q3 (l + 1) W h (Res.cr_out (by rw [← hq4]; exact n4)))
  have HWB := hid (fun (W : World) (h : RgW W R T q4 (l + 1)) => rwant_any R (l + 1) 9 T ⟨#[101, 108, 115, 101]⟩ q4 W h (by decide) (by decide) rfl)
  have HE6 := hid (fun (W : World) (h : RgW W R T q5 (l + 1)) => hE _ q5 (l + 1) W h (Res.cr_out (by rw [← hq6]; exact n6)))
  have HQ2 := hid hq2
  have HQ3 := hid hq3
  have HQ4 := hid hq4
  have HQ5 := hid hq5
  have HQ6 := hid hq6
  have HQQ := hid hqq
  obtain ⟨W0, hW0⟩ : ∃ W0, W0 = (w.alloc (.cells #[.string (bs (tok (by' T) j).text), .string ⟨#[]⟩, .int .i64 0, .int .i64 ((tok (by' T) j).at' : Int), .slice none 0 0] 126)).drew := ⟨_, rfl⟩
  have hb0 : Below w.heap.size w W0 := by rw [hW0]; exact ((Below.refl w.heap.size w).alloc (Nat.le_refl _) _).drew
  have hg0 : RgG W0 R T j l := hg.keep (hb0.block _ hlt)
  have HX0 : Hid (LS R T w w.heap.size W0 (.ok () j : Res Unit) l (bs (tok (by' T) j).text) ⟨#[]⟩ ((tok (by' T) j).at' : Int) (.slice none 0 0)) := ⟨Fr.below hb0 (Nat.le_of_lt hlt), Or.inl hg0, by rw [hW0]; exact heap_alloc_new w _, Nat.le_refl _, hlt⟩
  have HDP := hid (rdeep_any R j l 7 T W0 hg0 hk)
  rw [← hq1] at HDP
  have e4 := hg0.h.c4
  have e2 := hg0.h.c2
  obtain ⟨X, hX⟩ : ∃ X, X = w.heap.size := ⟨_, rfl⟩
  rw [← hX] at HX0
  have HXX := hid hX
  generalize bs (tok (by' T) j).text = tx at *
  generalize hA : ((tok (by' T) j).at' : Int) = A at *
  clear hA hE hg hk hq hro htx hq1 hq2 hq3 hq4 hq5 hq6 hqq n6 n5 n4 n3 n2 hb0 hg0
  go_enter Tryz.func41, Tryz.ntmps41
  go_wp2_with fail
  go_still_tail 9, hmx
  go_wp2_with fail
  rw [← hW0, ← hX]
  clear hW0 hX
  refine HDP.out.mono ?_
  rintro e w1 ⟨b, rfl, hf1, hm1⟩
  have HX1 := hid (HX0.out.step hf1 hm1)
  clear hf1 hm1 e2 e4 c1 c2 c4
  go_wp2_with fail
  refine (HE2.out w1 HX1.out.rm).mono ?_
  rintro e w3 ⟨v0, rfl, hf3, hm3, ht3⟩
  have HX3 : Hid (LS R T w X w3 q2 (l + 1) tx ⟨#[]⟩ A (.slice none 0 0)) := by unfold Hid; rw [HQ2.out]; exact HX1.out.step hf3 hm3.cr
  have HT3 := hid ht3
  have HL1 := hid HX1.out.lt
  have hR1 : R < w1.heap.size := HX1.out.rm.lt
  clear hf3 hm3 ht3
  go_wp2_with fail
  refine (HWA.out w3 HX3.out.rm).mono ?_
  rintro e w5 ⟨rfl, hf5, hm5⟩
  have HX5 : Hid (LS R T w X w5 q3 (l + 1) tx ⟨#[]⟩ A (.slice none 0 0)) := by unfold Hid; rw [HQ3.out]; exact HX3.out.step hf5 hm5
  have HT5 : Hid (∀ t j, (q1.bind fun _ a => pExpr (by' T) f a (l + 1)) = .ok t j → XT w1.heap.size w5 t (.pointer v0)) := fun t j h => (HT3.out t j h).fr hf5 hR1
  clear hf5 hm5 HT3
  go_wp2_with fail
  refine (HE4.out w5 HX5.out.rm).mono ?_
  rintro e w6 ⟨va, rfl, hf6, hm6, ht6⟩
  have HX6 : Hid (LS R T w X w6 q4 (l + 1) tx ⟨#[]⟩ A (.slice none 0 0)) := by unfold Hid; rw [HQ4.out]; exact HX5.out.step hf6 hm6.cr
  have HT6 := hid ht6
  have HL5 := hid HX5.out.lt
  have HT5b : Hid (∀ t j, (q1.bind fun _ a => pExpr (by' T) f a (l + 1)) = .ok t j → XT w1.heap.size w6 t (.pointer v0)) := fun t j h => (HT5.out t j h).fr hf6 hR1
  clear hf6 hm6 ht6 HT5
  go_wp2_with fail
  refine (HWB.out w6 HX6.out.rm).mono ?_
  rintro e w7 ⟨rfl, hf7, hm7⟩
  have HX7 : Hid (LS R T w X w7 q5 (l + 1) tx ⟨#[]⟩ A (.slice none 0 0)) := by unfold Hid; rw [HQ5.out]; exact HX6.out.step hf7 hm7
  have hR5 : R < w5.heap.size := HX5.out.rm.lt
  have HT7 : Hid (∀ t j, (q3.bind fun _ a => pExpr (by' T) f a (l + 1)) = .ok t j → XT w5.heap.size w7 t (.pointer va)) := fun t j h => (HT6.out t j h).fr hf7 hR5
  have HT7c : Hid (∀ t j, (q1.bind fun _ a => pExpr (by' T) f a (l + 1)) = .ok t j → XT w1.heap.size w7 t (.pointer v0)) := fun t j h => (HT5b.out t j h).fr hf7 hR1
  clear hf7 hm7 HT6 HT5b
  go_wp2_with fail
  refine (HE6.out w7 HX7.out.rm).mono ?_
  rintro e w8 ⟨vb, rfl, hf8, hm8, ht8⟩
  have HX8 : Hid (LS R T w X w8 q6 (l + 1) tx ⟨#[]⟩ A (.slice none 0 0)) := by unfold Hid; rw [HQ6.out]; exact HX7.out.step hf8 hm8.cr
  have HT8 := hid ht8
  have HL7 := hid HX7.out.lt
  have HT7b : Hid (∀ t j, (q3.bind fun _ a => pExpr (by' T) f a (l + 1)) = .ok t j → XT w5.heap.size w8 t (.pointer va)) := fun t j h => (HT7.out t j h).fr hf8 hR5
  have HT7d : Hid (∀ t j, (q1.bind fun _ a => pExpr (by' T) f a (l + 1)) = .ok t j → XT w1.heap.size w8 t (.pointer v0)) := fun t j h => (HT7c.out t j h).fr hf8 hR1
  clear hf8 hm8 ht8 HT7 HT7c
  obtain ⟨W9, hW9⟩ : ∃ W9, w8.alloc (.cells #[.pointer v0, .pointer va, .pointer vb] 49) = W9 := ⟨_, rfl⟩
  have HX9 : Hid (LS R T w X W9 q6 (l + 1) tx ⟨#[]⟩ A (.slice none 0 0)) := by unfold Hid; rw [← hW9]; exact HX8.out.alloc _
  have HB9 : Hid (Below w8.heap.size w8 W9) := by unfold Hid; rw [← hW9]; exact (Below.refl _ _).alloc (Nat.le_refl _) _
  have HN9 : Hid (W9.heap[w8.heap.size]? = some (.cells #[.pointer v0, .pointer va, .pointer vb] 49 (0, 0))) := by unfold Hid; rw [← hW9]; exact heap_alloc_new w8 _
  have x4 := HX9.out.c4
  have y4 := HX9.out.fz 4
  obtain ⟨W10, hW10⟩ : ∃ W10, W9.setCell ⟨X, 4, none⟩ (.slice (some ⟨w8.heap.size, 0, none⟩) 3 3) = W10 := ⟨_, rfl⟩
  have HX10 : Hid (LS R T w X W10 q6 (l + 1) tx ⟨#[]⟩ A (.slice (some ⟨w8.heap.size, 0, none⟩) 3 3)) := by unfold Hid; rw [← hW10]; exact HX9.out.put4 _
  obtain ⟨d, dd, r3, hdd, s3, hX11⟩ := HX10.out.back
  have HX11 := hid hX11
  have hL8 : X < w8.heap.size := HX8.out.lt
  have HE : Hid (XR R T q l w (.returned (.pointer (some ⟨X, 0, none⟩))) (W10.setCell ⟨R, 3, none⟩ (.int .i64 dd))) := by
    refine ⟨_, rfl, HX11.out.fr, ?_, fun t jj ht => ?_⟩
    · rw [HQQ.out]
      exact HX11.out.rm.map _
    · rw [HQQ.out] at ht
      obtain ⟨z, a6, h6, ht⟩ := Res.bind_ok ht
      obtain ⟨⟨⟨u, x0⟩, xa⟩, xb⟩ := z
      injection ht with ht _
      rw [HQ6.out] at h6
      have k6 := HT8.out _ _ (Res.cr_of h6)
      obtain ⟨a5, h5, _⟩ := Res.cr_ok h6
      rw [HQ5.out] at h5
      obtain ⟨a4, h4⟩ := Res.wn_ok h5
      rw [HQ4.out] at h4
      have k4 := HT7b.out _ _ (Res.cr_of h4)
      obtain ⟨a3, h3, _⟩ := Res.cr_ok h4
      rw [HQ3.out] at h3
      obtain ⟨a2, h2⟩ := Res.wn_ok h3
      rw [HQ2.out] at h2
      have k2 := HT7d.out _ _ (Res.cr_of h2)
      have hRX : R < X := by have := HX8.out.hX; have := HX8.out.hR; omega
      have kk2 : XT w1.heap.size (W10.setCell ⟨R, 3, none⟩ (.int .i64 dd)) x0 (.pointer v0) := by
        refine (XT.put ?_ (by have := HL1.out; omega) 3 _)
        rw [← hW10]
        exact (k2.below HB9.out).put HL1.out 4 _
      have kk4 : XT w5.heap.size (W10.setCell ⟨R, 3, none⟩ (.int .i64 dd)) xa (.pointer va) := by
        refine (XT.put ?_ (by have := HL5.out; omega) 3 _)
        rw [← hW10]
        exact (k4.below HB9.out).put HL5.out 4 _
      have kk6 : XT w7.heap.size (W10.setCell ⟨R, 3, none⟩ (.int .i64 dd)) xb (.pointer vb) := by
        refine (XT.put ?_ (by have := HL7.out; omega) 3 _)
        rw [← hW10]
        exact (k6.below HB9.out).put HL7.out 4 _
      have hsz1 : w.heap.size ≤ w1.heap.size := HX1.out.fr.size
      have hsz5 : w.heap.size ≤ w5.heap.size := HX5.out.fr.size
      have hsz7 : w.heap.size ≤ w7.heap.size := HX7.out.fr.size
      have hsz8 : w.heap.size ≤ w8.heap.size := HX8.out.fr.size
      rw [← ht]
      refine ⟨X, some ⟨w8.heap.size, 0, none⟩, 3, A, rfl, HX8.out.hX, ?_, fun h => by omega, ?_⟩
      · have := HX11.out.xb
        rw [HTX.out] at this
        exact this
      · have hcell : ∀ i y, (#[Value.pointer v0, Value.pointer va, Value.pointer vb] : Array Value)[i]? = some y → (W10.setCell ⟨R, 3, none⟩ (.int .i64 dd)).cell? ⟨w8.heap.size, i, none⟩ = some y := fun i y hy => by
          rw [World.cell?_of_block (a := ⟨w8.heap.size, i, none⟩) (heap_setCell_other _ _ _ _ (by show w8.heap.size ≠ R; omega)), ← hW10, World.cell?_of_block (a := ⟨w8.heap.size, i, none⟩) (heap_setCell_other _ _ _ _ (by show w8.heap.size ≠ X; omega))]
          simp [World.cell?, HN9.out]
          simpa using hy
        exact ⟨⟨_, _, rfl, hsz8, hcell 0 _ rfl, kk2.mono hsz1⟩, ⟨_, _, rfl, hsz8, hcell 1 _ rfl, kk4.mono hsz5⟩, ⟨_, _, rfl, hsz8, hcell 2 _ rfl, kk6.mono hsz7⟩, trivial⟩
  clear hX11 HX11
  go_wp2_with fail
  go_ret
  exact HE.out

end Go.Proofs.YtmmgkdcojkmlcaaGreatDoor

namespace Go.Proofs.YtmmgkdcojkmlcaaGreatDoor
open Go.RowKit

/-- a part of two, made at the end -/
theorem XT.two {lo K X : Nat} {W : World} {op : ByteArray} {k : Nat} {A : Int} {x y : Tr} {px py : Option Addr} (hop : op = bs (opS k)) (hk : ¬ (k = 1 ∨ k = 2 ∨ k = 9)) (hK : lo ≤ K) (hX : lo ≤ X) (hb : W.heap[X]? = some (.cells #[.string op, .string ⟨#[]⟩, .int .i64 0, .int .i64 A, .slice (some ⟨K, 0, none⟩) 2 2] 126 (0, 0))) (hc : W.heap[K]? = some (.cells #[.pointer px, .pointer py] 49 (0, 0))) (h1 : XT lo W x (.pointer px)) (h2 : XT lo W y (.pointer py)) : XT lo W (.node k [] 0 0 [x, y]) (.pointer (some ⟨X, 0, none⟩)) := by
  subst hop
  refine ⟨X, some ⟨K, 0, none⟩, 2, A, rfl, hX, hb, fun h => absurd h hk, ?_⟩
  exact ⟨⟨_, _, rfl, hK, by simp [World.cell?, hc], h1⟩, ⟨_, _, rfl, hK, by simp [World.cell?, hc], h2⟩, trivial⟩

/-- a part of two, made anew -/
theorem mk_two {R k l : Nat} {T op : ByteArray} {w w3 : World} {q : Res Tr} {p1 p2 : Option Addr} (hR : R < w.heap.size) (hop : op = bs (opS k)) (hk : ¬ (k = 1 ∨ k = 2 ∨ k = 9)) (hF : Fr R w w3) (hm : RgW w3 R T q l) (ht : ∀ t j, q = .ok t j → ∃ x y, t = .node k [] 0 0 [x, y] ∧ XT w.heap.size w3 x (.pointer p1) ∧ XT w.heap.size w3 y (.pointer p2)) :
    XR R T q l w (.returned (.pointer (some ⟨w3.heap.size + 1, 0, none⟩))) ((w3.alloc (.cells #[.pointer p1, .pointer p2] 49)).alloc (.cells #[.string op, .string ⟨#[]⟩, .int .i64 0, .int .i64 0, .slice (some ⟨w3.heap.size, 0, none⟩) 2 2] 126)) := by
  obtain ⟨V1, hV1⟩ : ∃ V1, V1 = w3.alloc (.cells #[.pointer p1, .pointer p2] 49) := ⟨_, rfl⟩
  rw [← hV1]
  have hs1 : V1.heap.size = w3.heap.size + 1 := by rw [hV1]; simp
  have b1 : Below w3.heap.size w3 V1 := by rw [hV1]; exact (Below.refl _ _).alloc (Nat.le_refl _) _
  have n1 : V1.heap[w3.heap.size]? = some (.cells #[.pointer p1, .pointer p2] 49 (0, 0)) := by rw [hV1]; exact heap_alloc_new w3 _
  obtain ⟨V2, hV2⟩ : ∃ V2, V2 = V1.alloc (.cells #[.string op, .string ⟨#[]⟩, .int .i64 0, .int .i64 0, .slice (some ⟨w3.heap.size, 0, none⟩) 2 2] 126) := ⟨_, rfl⟩
  rw [← hV2]
  have b2 : Below V1.heap.size V1 V2 := by rw [hV2]; exact (Below.refl _ _).alloc (Nat.le_refl _) _
  have n2 : V2.heap[w3.heap.size + 1]? = some (.cells #[.string op, .string ⟨#[]⟩, .int .i64 0, .int .i64 0, .slice (some ⟨w3.heap.size, 0, none⟩) 2 2] 126 (0, 0)) := by rw [← hs1, hV2]; exact heap_alloc_new V1 _
  have b3 : Below w3.heap.size w3 V2 := b1.trans (b2.mono (by omega))
  have hs := hF.size
  refine ⟨_, rfl, hF.more b3 hR, hm.keep (b3.block _ hm.lt), fun t j h => ?_⟩
  obtain ⟨x, y, rfl, h1, h2⟩ := ht t j h
  exact XT.two hop hk hs (by omega) n2 ((b2.block _ (by omega)).trans n1) (h1.below b3) (h2.below b3)

set_option maxRecDepth 100000 in
set_option maxHeartbeats 2000000 in
theorem rexpr_else (R : Nat) (T : ByteArray) (f j l : Nat) (w : World) (hS : SUM R T f) (hg : RgG w R T j l) (h5 : ¬ (tok (by' T) j).kind = 5) (h6 : ¬ (tok (by' T) j).kind = 6) (h7 : ¬ (tok (by' T) j).kind = 7) (q : Res Tr) (hq : q = pExpr (by' T) (f + 1) j l) (hro : q ≠ .out) :
    Calls Tryz.prog 41 #[.pointer (some ⟨R, 0, none⟩)] w (XR R T q l w) := by
  have hmx : Tryz.prog.follows .mixedOrders = true := by kernel_rfl
  have hlt := hg.h.lt
  have c1 := hg.h.c1
  have c2 := hg.h.c2
  have c4 := hg.h.c4
  have t5 : ((bs (tok (by' T) j).text).toList == [108, 101, 116]) = false := by rw [bs_list]; simp; exact fun e => h5 ((tok_spl (by' T) j 5 (by decide) (by decide)).2 e)
  have t6 : ((bs (tok (by' T) j).text).toList == [110, 101, 101, 100]) = false := by rw [bs_list]; simp; exact fun e => h6 ((tok_spl (by' T) j 6 (by decide) (by decide)).2 e)
  have t7 : ((bs (tok (by' T) j).text).toList == [105, 102]) = false := by rw [bs_list]; simp; exact fun e => h7 ((tok_spl (by' T) j 7 (by decide) (by decide)).2 e)
  rw [pExpr, if_neg h5, if_neg h6, if_neg h7] at hq
  obtain ⟨q1, hq1⟩ : ∃ q1, q1 = pSum (by' T) f j l := ⟨_, rfl⟩
  rw [← hq1] at hq
  have n1 : q1 ≠ .out := Res.out_bind (by rw [← hq]; exact hro)
  obtain ⟨W0, hW0⟩ : ∃ W0, W0 = (w.alloc (.cells #[.string (bs (tok (by' T) j).text), .string ⟨#[]⟩, .int .i64 0, .int .i64 ((tok (by' T) j).at' : Int), .slice none 0 0] 126)).drew := ⟨_, rfl⟩
  have hb0 : Below w.heap.size w W0 := by rw [hW0]; exact ((Below.refl w.heap.size w).alloc (Nat.le_refl _) _).drew
  have hg0 : RgG W0 R T j l := hg.keep (hb0.block _ hlt)
  have HS1 := hid (hS Unit (.ok () j) l W0 (Or.inl hg0) (show pSum (by' T) f j l ≠ .out by rw [← hq1]; exact n1))
  rw [show ((Res.ok () j : Res Unit).bind fun _ j => pSum (by' T) f j l) = q1 from hq1.symm] at HS1
  have HS2 := hid (fun (x : Tr) (a : Nat) (W : World) (hm : RgW W R T (.ok x a : Res Tr) l) (hn : pSum (by' T) f a l ≠ .out) => hS Tr (.ok x a) l W hm hn)
  have HTK := hid (fun (W : World) (hm : RgW W R T q1 l) => rtake_any R l 15 T ⟨#[61, 61]⟩ q1 W hm (by decide) (by decide) rfl)
  have HQ := hid hq
  have HRO := hid hro
  have HF0 := hid (Fr.below hb0 (Nat.le_of_lt hlt))
  have e4 := hg0.h.c4
  have e2 := hg0.h.c2
  have hs0 : w.heap.size ≤ W0.heap.size := hb0.size
  have HS0 := hid hs0
  generalize bs (tok (by' T) j).text = tx at *
  generalize ((tok (by' T) j).at' : Int) = A at *
  clear hg h5 h6 h7 hq hro n1 hb0 hg0 hS hq1 hs0
  go_enter Tryz.func41, Tryz.ntmps41
  go_wp2_with fail
  go_still_tail 9, hmx
  go_wp2_with fail
  rw [← hW0]
  clear hW0
  refine HS1.out.mono ?_
  rintro e w1 ⟨p1, rfl, hf1, hm1, ht1⟩
  have HF1 := hid (HF0.out.trans hf1)
  have HM1 := hid hm1
  have HT1 := hid ht1
  clear hf1 hm1 ht1 c1 c2 c4 e2 e4
  go_wp2_with fail
  refine (HTK.out w1 HM1.out).mono ?_
  rintro e w2 ⟨hf2, ⟨rfl, x, a, hr, hka, hm2⟩ | ⟨rfl, hm2, hka⟩⟩
  · have HF2 := hid (HF1.out.trans hf2)
    have hq2 := HQ.out
    rw [hr] at hq2
    have hq3 : q = (pSum (by' T) f (tok (by' T) a).nx l).bind fun y a2 => .ok (.node 8 [] 0 0 [x, y]) a2 := by
      rw [hq2]
      show (if (tok (by' T) a).kind = 15 then _ else _) = _
      rw [if_pos hka]
    have HQ3 := hid hq3
    have HC := hid (HS2.out x (tok (by' T) a).nx w2 hm2 (Res.out_bind (by rw [← hq3]; exact HRO.out)))
    have hR0 : R < W0.heap.size := by have := HF0.out.size; omega
    have HT2 : Hid (XT W0.heap.size w2 x (.pointer p1)) := (HT1.out x a hr).fr hf2 hR0
    clear hf2 hr hka hm2 hq2 hq3 HT1
    go_wp2_with fail
    refine HC.out.mono ?_
    rintro e w3 ⟨p2, rfl, hf3, hm3, ht3⟩
    have HF3 := hid (HF2.out.trans hf3)
    have HM3 : Hid (RgW w3 R T (pSum (by' T) f (tok (by' T) a).nx l) l) := hm3
    have HT3 : Hid (∀ t j, pSum (by' T) f (tok (by' T) a).nx l = .ok t j → XT w2.heap.size w3 t (.pointer p2)) := ht3
    have HTx : Hid (XT W0.heap.size w3 x (.pointer p1)) := HT2.out.fr hf3 hR0
    clear hf3 hm3 ht3 HT2
    go_wp2_with fail
    go_ret
    refine mk_two (k := 8) hlt rfl (by decide) HF3.out (by rw [HQ3.out]; exact HM3.out.map _) (fun t jj h => ?_)
    rw [HQ3.out] at h
    obtain ⟨y, a3, h3, h⟩ := Res.bind_ok h
    injection h with h _
    exact ⟨x, y, h.symm, HTx.out.mono HS0.out, (HT3.out _ _ h3).mono HF2.out.size⟩
  · have HF2 := hid (HF1.out.trans hf2)
    have hR0 : R < W0.heap.size := by have := HF0.out.size; omega
    have hqe : q = q1 := by
      rw [HQ.out]
      cases hc : q1 with
      | out => rfl
      | bad e a => rfl
      | ok x a =>
        show (if (tok (by' T) a).kind = 15 then _ else _) = _
        rw [if_neg (hka x a hc)]
    have HE : Hid (XR R T q l w (.returned (.pointer p1)) w2) := ⟨_, rfl, HF2.out, by rw [hqe]; exact hm2, fun t jj h => ((HT1.out t jj (by rw [← hqe]; exact h)).fr hf2 hR0).mono HS0.out⟩
    clear hf2 hm2 hka hqe
    go_wp2_with fail
    go_ret
    exact HE.out

set_option maxRecDepth 100000 in
set_option maxHeartbeats 2000000 in
theorem rexpr_bad (R : Nat) (T : ByteArray) (l e a : Nat) (w : World) (hf : RgF w R T e a) (q : Res Tr) (hq : q = .bad e a) :
    Calls Tryz.prog 41 #[.pointer (some ⟨R, 0, none⟩)] w (XR R T q l w) := by
  have hmx : Tryz.prog.follows .mixedOrders = true := by kernel_rfl
  have HF := hid hf
  obtain ⟨he, at', tk, dp, hR⟩ := hf
  have hlt := hR.lt
  have c1 := hR.c1
  have c2 := hR.c2
  have c4 := hR.c4
  have q4 : ((e : Int) != 0) = true := by simp; omega
  obtain ⟨W0, hW0⟩ : ∃ W0, W0 = (w.alloc (.cells #[.string tk, .string ⟨#[]⟩, .int .i64 0, .int .i64 at', .slice none 0 0] 126)).drew := ⟨_, rfl⟩
  have hb0 : Below w.heap.size w W0 := by rw [hW0]; exact ((Below.refl w.heap.size w).alloc (Nat.le_refl _) _).drew
  have HE : Hid (XR R T q l w (.returned (.pointer (some ⟨w.heap.size, 0, none⟩))) W0) := ⟨_, rfl, Fr.below hb0 (Nat.le_of_lt hlt), by rw [hq]; exact HF.out.keep (hb0.block _ hlt), fun t jj h => by rw [hq] at h; cases h⟩
  clear hq hR hb0 he
  go_enter Tryz.func41, Tryz.ntmps41
  go_wp2_with fail
  go_still_tail 9, hmx
  go_wp2_with fail
  rw [← hW0]
  go_ret
  exact HE.out
theorem rexpr_any (R : Nat) (T : ByteArray) (f : Nat) (hE : EXP R T f) (hS : SUM R T f) : EXP R T (f + 1) := fun α r l w hm hro => by
  rcases hm.cases with ⟨x, j, rfl, hg⟩ | ⟨e, a, hf, hr⟩
  · by_cases h5 : (tok (by' T) j).kind = 5
    · exact rexpr_let R T f j l w hE hg h5 _ rfl hro
    · by_cases h6 : (tok (by' T) j).kind = 6
      · exact rexpr_need R T f j l w hE hS hg h6 _ rfl hro
      · by_cases h7 : (tok (by' T) j).kind = 7
        · exact rexpr_if R T f j l w hE hg h7 _ rfl hro
        · exact rexpr_else R T f j l w hS hg h5 h6 h7 _ rfl hro
  · refine rexpr_bad R T l e a w hf _ ?_
    rcases hr with rfl | ⟨x, j, rfl, h0, rfl, rfl⟩
    · rfl
    · rcases pExpr_zero (f := f + 1) (l := l) h0 with h | h
      · exact absurd h hro
      · exact h

end Go.Proofs.YtmmgkdcojkmlcaaGreatDoor

namespace Go.Proofs.YtmmgkdcojkmlcaaGreatDoor
open Go.RowKit

/-- how much is left to read -/
def rgm (R : Nat) (T : ByteArray) (w : World) : Nat := match w.cell? ⟨R, 4, none⟩, w.cell? ⟨R, 1, none⟩ with
  | some (.int _ e), some (.int _ a) => if e = 0 then T.size + 1 - a.toNat else 0
  | _, _ => 0
theorem RgG.rgm {w : World} {R : Nat} {T : ByteArray} {j l : Nat} (h : RgG w R T j l) : rgm R T w = T.size + 1 - (tok (by' T) j).at' := by
  unfold Go.Proofs.YtmmgkdcojkmlcaaGreatDoor.rgm
  rw [h.h.c4, h.h.c1]
  simp
theorem rgm_lt {α : Type} {w : World} {R l N : Nat} {T : ByteArray} {r : Res α} (h : RgW w R T r l) (hp : ∀ x j, r = .ok x j → N < j ∧ j ≤ T.size) (hN : N ≤ T.size) : rgm R T w < T.size + 1 - N := by
  rcases h.cases with ⟨x, j, hr, hg⟩ | ⟨e, a, ⟨he, at', tk, dp, hR⟩, hr⟩
  · rw [hg.rgm]
    have h1 := (tok_at (by' T) j (by rw [by_len]; exact hg.le)).1
    have := hp x j hr
    omega
  · unfold rgm
    rw [hR.c4, hR.c1]
    simp only
    rw [if_neg (by omega)]
    omega

set_option maxRecDepth 100000 in
set_option maxHeartbeats 2000000 in
theorem rsum_any (R : Nat) (T : ByteArray) (f : Nat) (hP : ∀ g, g ≤ f → PRD R T g) : SUM R T (f + 1) := fun α r l w hm hro => by
  have hlt := hm.lt
  obtain ⟨q, hq⟩ : ∃ q, q = r.bind fun _ j => pSum (by' T) (f + 1) j l := ⟨_, rfl⟩
  rw [← hq] at hro ⊢
  obtain ⟨q1, hq1⟩ : ∃ q1, q1 = r.bind fun _ j => pProd (by' T) f j l := ⟨_, rfl⟩
  have hqq : q = q1.bind fun x j => pSumL (by' T) f x j l := by
    rw [hq, hq1]
    cases r with
    | out => rfl
    | bad e a => rfl
    | ok x j =>
      show pSum (by' T) (f + 1) j l = (pProd (by' T) f j l).bind _
      rw [pSum]
  have n1 : q1 ≠ .out := Res.out_bind (by rw [← hqq]; exact hro)
  have HC := hid (hP f (Nat.le_refl _) α r l w hm (by rw [← hq1]; exact n1))
  rw [← hq1] at HC
  have HP := hid (fun (g : Nat) (hg : g ≤ f) (x : Tr) (a : Nat) (W : World) (hm : RgW W R T (.ok x a : Res Tr) l) (hn : pProd (by' T) g a l ≠ .out) => hP g hg Tr (.ok x a) l W hm hn)
  have HQQ := hid hqq
  have HRO := hid hro
  have HON := hid (fun (j : Nat) (W : World) (h : RgG W R T j l) => ron_any R j l T W h)
  clear hm hro hq hq1 hqq n1 hP
  go_enter Tryz.func66, Tryz.ntmps66
  go_wp2_with fail
  refine HC.out.mono ?_
  rintro e w1 ⟨p1, rfl, hf1, hm1, ht1⟩
  have HF1 := hid hf1
  have HM1 := hid hm1
  have HT1 := hid ht1
  clear hf1 hm1 ht1 HC
  go_wp2_with fail
  go_loopw [3] (fun v wr => ∃ (p : Option Addr) (rc : Res Tr), v = .pointer p ∧ Hid (Fr R w wr) ∧ Hid (RgW wr R T rc l) ∧ Hid (∀ t j, rc = .ok t j → XT w.heap.size wr t (.pointer p)) ∧ Hid (∃ g, g ≤ f ∧ q = rc.bind fun x j => pSumL (by' T) g x j l)) (fun _ wr => rgm R T wr)
  case atStart => exact ⟨_, _, rfl, HF1, HM1, HT1, f, Nat.le_refl _, HQQ.out⟩
  case round =>
    obtain ⟨p, rc, rfl, hF, hM, hT, hG⟩ := hrel
    clear HF1 HM1 HT1 HQQ
    rcases hM.out.cases with ⟨x, j, hr, hg⟩ | ⟨e, a, hfa, hr⟩
    · have c4 := hg.h.c4
      have c2 := hg.h.c2
      obtain ⟨g, hgf, hq2⟩ := hG.out
      rw [hr] at hq2
      have hq2 : q = pSumL (by' T) g x j l := hq2
      have hgx : ∃ g', g' + 1 ≤ f ∧ q = pSumL (by' T) (g' + 1) x j l := by
        cases g with
        | zero => rw [pSumL] at hq2; exact absurd hq2 HRO.out
        | succ g' => exact ⟨g', hgf, hq2⟩
      obtain ⟨g', hgf', hq3⟩ := hgx
      rw [pSumL] at hq3
      have HX := hid (hT.out x j hr)
      have HGM := hid (hg.rgm)
      have s1 := tok_spl (by' T) j 16 (by decide) (by decide)
      have s2 := tok_spl (by' T) j 17 (by decide) (by decide)
      have hta := tok_at (by' T) j (by rw [by_len]; exact hg.le)
      rw [by_len] at hta
      have HTA := hid hta
      have HO := hid (HON.out j wr hg)
      have HG' := hid hgf'
      clear hq2 hG hgf hta
      by_cases h1 : (tok (by' T) j).kind = 16
      · have t1 : ((bs (tok (by' T) j).text).toList == [43]) = true := by rw [bs_list, s1.1 h1]; rfl
        rw [if_pos h1] at hq3
        have hne : pProd (by' T) g' (tok (by' T) j).nx l ≠ .out := Res.out_bind (by rw [← hq3]; exact HRO.out)
        have HOP : Hid (bs (tok (by' T) j).text = bs (opS 4)) := by unfold Hid; rw [s1.1 h1]; rfl
        have HQ3 := hid hq3
        have HNX : Hid ((tok (by' T) j).at' < (tok (by' T) j).nx) := HTA.out.2.2.2.1 (by omega)
        have HFX := hid ((p_fx (by' T) g').2.2.2.1 (tok (by' T) j).nx l (by rw [by_len]; exact HTA.out.2.1))
        generalize bs (tok (by' T) j).text = tx at *
        generalize (tok (by' T) j).nx = nx at *
        clear s1 s2 h1 hq3 hg hr
        go_wp2_with fail
        refine HO.out.mono ?_
        rintro e w2 ⟨rfl, hf2, hm2⟩
        have HF2 := hid (hF.out.trans hf2)
        have HX2 := hid (HX.out.fr hf2 hlt)
        have HC2 := hid (HP.out g' (by have := HG'.out; omega) x nx w2 (hm2.of rfl) hne)
        have HSZ2 := hid HF2.out.size
        clear hf2 hm2 HO
        go_wp2_with fail
        refine HC2.out.mono ?_
        rintro e w3 ⟨p3, rfl, hf3, hm3, ht3⟩
        have hm3 : RgW w3 R T (pProd (by' T) g' nx l) l := hm3
        have ht3 : ∀ t j, pProd (by' T) g' nx l = .ok t j → XT w2.heap.size w3 t (.pointer p3) := ht3
        obtain ⟨rn, hrn⟩ : ∃ rn : Res Tr, rn = (pProd (by' T) g' nx l).bind fun y j => .ok (.node 4 [] 0 0 [x, y]) j := ⟨_, rfl⟩
        have hXR := mk_two (k := 4) (op := tx) (q := rn) (p1 := p) (p2 := p3) hlt HOP.out (by decide) (HF2.out.trans hf3) (by rw [hrn]; exact hm3.map _) (fun t jj h => by
          rw [hrn] at h
          obtain ⟨y, a3, h3, h⟩ := Res.bind_ok h
          injection h with h _
          exact ⟨x, y, h.symm, HX2.out.fr hf3 hlt, (ht3 _ _ h3).mono HSZ2.out⟩)
        have HXR := hid hXR
        have HQN : Hid (∃ g, g ≤ f ∧ q = rn.bind fun x j => pSumL (by' T) g x j l) := ⟨g', by have := HG'.out; omega, by
          rw [HQ3.out, hrn]
          cases pProd (by' T) g' nx l <;> rfl⟩
        have HPR : Hid (∀ y j, rn = .ok y j → nx ≤ j ∧ j ≤ T.size) := fun y j h => by
          rw [hrn] at h
          obtain ⟨y', a3, h3, h⟩ := Res.bind_ok h
          injection h with _ h
          subst h
          have k3 := HFX.out
          rw [h3] at k3
          have := k3.1
          have := k3.2
          rw [by_len] at this
          omega
        clear hf3 hm3 ht3 HC2 hXR hrn hne
        go_wp2_with fail
        go_roundw
        case rel =>
          obtain ⟨p4, e4, h1, h2, h3⟩ := HXR.out
          injection e4 with e4
          injection e4 with e4
          exact ⟨_, rn, rfl, h1, h2, by rw [e4]; exact h3, HQN.out⟩
        case measure =>
          obtain ⟨p4, e4, h1, h2, h3⟩ := HXR.out
          rw [HGM.out]
          exact rgm_lt h2 (fun y j h => by have := HPR.out y j h; have := HNX.out; omega) (by have := HTA.out; omega)
      · by_cases h2 : (tok (by' T) j).kind = 17
        · have t1 : ((bs (tok (by' T) j).text).toList == [43]) = false := by rw [bs_list, s2.1 h2]; rfl
          have t2 : ((bs (tok (by' T) j).text).toList == [45]) = true := by rw [bs_list, s2.1 h2]; rfl
          rw [if_neg h1, if_pos h2] at hq3
          have hne : pProd (by' T) g' (tok (by' T) j).nx l ≠ .out := Res.out_bind (by rw [← hq3]; exact HRO.out)
          have HOP : Hid (bs (tok (by' T) j).text = bs (opS 5)) := by unfold Hid; rw [s2.1 h2]; rfl
          have HQ3 := hid hq3
          have HNX : Hid ((tok (by' T) j).at' < (tok (by' T) j).nx) := HTA.out.2.2.2.1 (by omega)
          have HFX := hid ((p_fx (by' T) g').2.2.2.1 (tok (by' T) j).nx l (by rw [by_len]; exact HTA.out.2.1))
          generalize bs (tok (by' T) j).text = tx at *
          generalize (tok (by' T) j).nx = nx at *
          clear s1 s2 h1 h2 hq3 hg hr
          go_wp2_with fail
          refine HO.out.mono ?_
          rintro e w2 ⟨rfl, hf2, hm2⟩
          have HF2 := hid (hF.out.trans hf2)
          have HX2 := hid (HX.out.fr hf2 hlt)
          have HC2 := hid (HP.out g' (by have := HG'.out; omega) x nx w2 (hm2.of rfl) hne)
          have HSZ2 := hid HF2.out.size
          clear hf2 hm2 HO
          go_wp2_with fail
          refine HC2.out.mono ?_
          rintro e w3 ⟨p3, rfl, hf3, hm3, ht3⟩
          have hm3 : RgW w3 R T (pProd (by' T) g' nx l) l := hm3
          have ht3 : ∀ t j, pProd (by' T) g' nx l = .ok t j → XT w2.heap.size w3 t (.pointer p3) := ht3
          obtain ⟨rn, hrn⟩ : ∃ rn : Res Tr, rn = (pProd (by' T) g' nx l).bind fun y j => .ok (.node 5 [] 0 0 [x, y]) j := ⟨_, rfl⟩
          have hXR := mk_two (k := 5) (op := tx) (q := rn) (p1 := p) (p2 := p3) hlt HOP.out (by decide) (HF2.out.trans hf3) (by rw [hrn]; exact hm3.map _) (fun t jj h => by
            rw [hrn] at h
            obtain ⟨y, a3, h3, h⟩ := Res.bind_ok h
            injection h with h _
            exact ⟨x, y, h.symm, HX2.out.fr hf3 hlt, (ht3 _ _ h3).mono HSZ2.out⟩)
          have HXR := hid hXR
          have HQN : Hid (∃ g, g ≤ f ∧ q = rn.bind fun x j => pSumL (by' T) g x j l) := ⟨g', by have := HG'.out; omega, by
            rw [HQ3.out, hrn]
            cases pProd (by' T) g' nx l <;> rfl⟩
          have HPR : Hid (∀ y j, rn = .ok y j → nx ≤ j ∧ j ≤ T.size) := fun y j h => by
            rw [hrn] at h
            obtain ⟨y', a3, h3, h⟩ := Res.bind_ok h
            injection h with _ h
            subst h
            have k3 := HFX.out
            rw [h3] at k3
            have := k3.1
            have := k3.2
            rw [by_len] at this
            omega
          clear hf3 hm3 ht3 HC2 hXR hrn hne
          go_wp2_with fail
          go_roundw
          case rel =>
            obtain ⟨p4, e4, h1, h2, h3⟩ := HXR.out
            injection e4 with e4
            injection e4 with e4
            exact ⟨_, rn, rfl, h1, h2, by rw [e4]; exact h3, HQN.out⟩
          case measure =>
            obtain ⟨p4, e4, h1, h2, h3⟩ := HXR.out
            rw [HGM.out]
            exact rgm_lt h2 (fun y j h => by have := HPR.out y j h; have := HNX.out; omega) (by have := HTA.out; omega)
        · have t1 : ((bs (tok (by' T) j).text).toList == [43]) = false := by rw [bs_list]; simp; exact fun e => h1 (s1.2 e)
          have t2 : ((bs (tok (by' T) j).text).toList == [45]) = false := by rw [bs_list]; simp; exact fun e => h2 (s2.2 e)
          rw [if_neg h1, if_neg h2] at hq3
          have HE : Hid (XR R T q l w (.returned (.pointer p)) wr) := ⟨_, rfl, hF.out, by rw [hq3, ← hr]; exact hM.out, fun t jj h => hT.out t jj (by rw [hr, ← hq3]; exact h)⟩
          generalize bs (tok (by' T) j).text = tx at *
          clear s1 s2 h1 h2 hq3 hg hr
          go_wp2_with fail
          go_ret
          exact HE.out
    · obtain ⟨g, hgf, hq2⟩ := hG.out
      have hqb : q = rc := by
        rcases hr with h1 | ⟨x, j, h1, h0, rfl, rfl⟩
        · rw [hq2, h1]; rfl
        · rw [h1] at hq2 ⊢
          have hq2 : q = pSumL (by' T) g x j l := hq2
          cases g with
          | zero => rw [pSumL] at hq2; exact absurd hq2 HRO.out
          | succ g => rw [hq2, pSumL, if_neg (by omega), if_neg (by omega)]
      obtain ⟨he, at', tk, dp, hR⟩ := hfa
      have c4 := hR.c4
      have q4 : ((e : Int) == 0) = false := by simp; omega
      have HE : Hid (XR R T q l w (.returned (.pointer p)) wr) := ⟨_, rfl, hF.out, by rw [hqb]; exact hM.out, fun t jj h => hT.out t jj (by rw [← hqb]; exact h)⟩
      clear hr hR he hq2 hqb hgf
      go_wp2_with fail
      go_ret
      exact HE.out

end Go.Proofs.YtmmgkdcojkmlcaaGreatDoor

namespace Go.Proofs.YtmmgkdcojkmlcaaGreatDoor
open Go.RowKit

set_option maxRecDepth 100000 in
set_option maxHeartbeats 2000000 in
theorem rproduct_any (R : Nat) (T : ByteArray) (f : Nat) (hP : ∀ g, g ≤ f → PRT R T g) : PRD R T (f + 1) := fun α r l w hm hro => by
  have hlt := hm.lt
  obtain ⟨q, hq⟩ : ∃ q, q = r.bind fun _ j => pProd (by' T) (f + 1) j l := ⟨_, rfl⟩
  rw [← hq] at hro ⊢
  obtain ⟨q1, hq1⟩ : ∃ q1, q1 = r.bind fun _ j => pPart (by' T) f j l := ⟨_, rfl⟩
  have hqq : q = q1.bind fun x j => pProdL (by' T) f x j l := by
    rw [hq, hq1]
    cases r with
    | out => rfl
    | bad e a => rfl
    | ok x j =>
      show pProd (by' T) (f + 1) j l = (pPart (by' T) f j l).bind _
      rw [pProd]
  have n1 : q1 ≠ .out := Res.out_bind (by rw [← hqq]; exact hro)
  have HC := hid (hP f (Nat.le_refl _) α r l w hm (by rw [← hq1]; exact n1))
  rw [← hq1] at HC
  have HP := hid (fun (g : Nat) (hg : g ≤ f) (x : Tr) (a : Nat) (W : World) (hm : RgW W R T (.ok x a : Res Tr) l) (hn : pPart (by' T) g a l ≠ .out) => hP g hg Tr (.ok x a) l W hm hn)
  have HQQ := hid hqq
  have HRO := hid hro
  have HON := hid (fun (j : Nat) (W : World) (h : RgG W R T j l) => ron_any R j l T W h)
  clear hm hro hq hq1 hqq n1 hP
  go_enter Tryz.func87, Tryz.ntmps87
  go_wp2_with fail
  refine HC.out.mono ?_
  rintro e w1 ⟨p1, rfl, hf1, hm1, ht1⟩
  have HF1 := hid hf1
  have HM1 := hid hm1
  have HT1 := hid ht1
  clear hf1 hm1 ht1 HC
  go_wp2_with fail
  go_loopw [3] (fun v wr => ∃ (p : Option Addr) (rc : Res Tr), v = .pointer p ∧ Hid (Fr R w wr) ∧ Hid (RgW wr R T rc l) ∧ Hid (∀ t j, rc = .ok t j → XT w.heap.size wr t (.pointer p)) ∧ Hid (∃ g, g ≤ f ∧ q = rc.bind fun x j => pProdL (by' T) g x j l)) (fun _ wr => rgm R T wr)
  case atStart => exact ⟨_, _, rfl, HF1, HM1, HT1, f, Nat.le_refl _, HQQ.out⟩
  case round =>
    obtain ⟨p, rc, rfl, hF, hM, hT, hG⟩ := hrel
    clear HF1 HM1 HT1 HQQ
    rcases hM.out.cases with ⟨x, j, hr, hg⟩ | ⟨e, a, hfa, hr⟩
    · have c4 := hg.h.c4
      have c2 := hg.h.c2
      obtain ⟨g, hgf, hq2⟩ := hG.out
      rw [hr] at hq2
      have hq2 : q = pProdL (by' T) g x j l := hq2
      have hgx : ∃ g', g' + 1 ≤ f ∧ q = pProdL (by' T) (g' + 1) x j l := by
        cases g with
        | zero => rw [pProdL] at hq2; exact absurd hq2 HRO.out
        | succ g' => exact ⟨g', hgf, hq2⟩
      obtain ⟨g', hgf', hq3⟩ := hgx
      rw [pProdL] at hq3
      have HX := hid (hT.out x j hr)
      have HGM := hid (hg.rgm)
      have s1 := tok_spl (by' T) j 18 (by decide) (by decide)
      have s2 := tok_spl (by' T) j 19 (by decide) (by decide)
      have hta := tok_at (by' T) j (by rw [by_len]; exact hg.le)
      rw [by_len] at hta
      have HTA := hid hta
      have HO := hid (HON.out j wr hg)
      have HG' := hid hgf'
      clear hq2 hG hgf hta
      by_cases h1 : (tok (by' T) j).kind = 18
      · have t1 : ((bs (tok (by' T) j).text).toList == [42]) = true := by rw [bs_list, s1.1 h1]; rfl
        rw [if_pos h1] at hq3
        have hne : pPart (by' T) g' (tok (by' T) j).nx l ≠ .out := Res.out_bind (by rw [← hq3]; exact HRO.out)
        have HOP : Hid (bs (tok (by' T) j).text = bs (opS 6)) := by unfold Hid; rw [s1.1 h1]; rfl
        have HQ3 := hid hq3
        have HNX : Hid ((tok (by' T) j).at' < (tok (by' T) j).nx) := HTA.out.2.2.2.1 (by omega)
        have HFX := hid ((p_fx (by' T) g').2.2.2.2.2.1 (tok (by' T) j).nx l (by rw [by_len]; exact HTA.out.2.1))
        generalize bs (tok (by' T) j).text = tx at *
        generalize (tok (by' T) j).nx = nx at *
        clear s1 s2 h1 hq3 hg hr
        go_wp2_with fail
        refine HO.out.mono ?_
        rintro e w2 ⟨rfl, hf2, hm2⟩
        have HF2 := hid (hF.out.trans hf2)
        have HX2 := hid (HX.out.fr hf2 hlt)
        have HC2 := hid (HP.out g' (by have := HG'.out; omega) x nx w2 (hm2.of rfl) hne)
        have HSZ2 := hid HF2.out.size
        clear hf2 hm2 HO
        go_wp2_with fail
        refine HC2.out.mono ?_
        rintro e w3 ⟨p3, rfl, hf3, hm3, ht3⟩
        have hm3 : RgW w3 R T (pPart (by' T) g' nx l) l := hm3
        have ht3 : ∀ t j, pPart (by' T) g' nx l = .ok t j → XT w2.heap.size w3 t (.pointer p3) := ht3
        obtain ⟨rn, hrn⟩ : ∃ rn : Res Tr, rn = (pPart (by' T) g' nx l).bind fun y j => .ok (.node 6 [] 0 0 [x, y]) j := ⟨_, rfl⟩
        have hXR := mk_two (k := 6) (op := tx) (q := rn) (p1 := p) (p2 := p3) hlt HOP.out (by decide) (HF2.out.trans hf3) (by rw [hrn]; exact hm3.map _) (fun t jj h => by
          rw [hrn] at h
          obtain ⟨y, a3, h3, h⟩ := Res.bind_ok h
          injection h with h _
          exact ⟨x, y, h.symm, HX2.out.fr hf3 hlt, (ht3 _ _ h3).mono HSZ2.out⟩)
        have HXR := hid hXR
        have HQN : Hid (∃ g, g ≤ f ∧ q = rn.bind fun x j => pProdL (by' T) g x j l) := ⟨g', by have := HG'.out; omega, by
          rw [HQ3.out, hrn]
          cases pPart (by' T) g' nx l <;> rfl⟩
        have HPR : Hid (∀ y j, rn = .ok y j → nx ≤ j ∧ j ≤ T.size) := fun y j h => by
          rw [hrn] at h
          obtain ⟨y', a3, h3, h⟩ := Res.bind_ok h
          injection h with _ h
          subst h
          have k3 := HFX.out
          rw [h3] at k3
          have := k3.1
          have := k3.2
          rw [by_len] at this
          omega
        clear hf3 hm3 ht3 HC2 hXR hrn hne
        go_wp2_with fail
        go_roundw
        case rel =>
          obtain ⟨p4, e4, h1, h2, h3⟩ := HXR.out
          injection e4 with e4
          injection e4 with e4
          exact ⟨_, rn, rfl, h1, h2, by rw [e4]; exact h3, HQN.out⟩
        case measure =>
          obtain ⟨p4, e4, h1, h2, h3⟩ := HXR.out
          rw [HGM.out]
          exact rgm_lt h2 (fun y j h => by have := HPR.out y j h; have := HNX.out; omega) (by have := HTA.out; omega)
      · by_cases h2 : (tok (by' T) j).kind = 19
        · have t1 : ((bs (tok (by' T) j).text).toList == [42]) = false := by rw [bs_list, s2.1 h2]; rfl
          have t2 : ((bs (tok (by' T) j).text).toList == [47]) = true := by rw [bs_list, s2.1 h2]; rfl
          rw [if_neg h1, if_pos h2] at hq3
          have hne : pPart (by' T) g' (tok (by' T) j).nx l ≠ .out := Res.out_bind (by rw [← hq3]; exact HRO.out)
          have HOP : Hid (bs (tok (by' T) j).text = bs (opS 7)) := by unfold Hid; rw [s2.1 h2]; rfl
          have HQ3 := hid hq3
          have HNX : Hid ((tok (by' T) j).at' < (tok (by' T) j).nx) := HTA.out.2.2.2.1 (by omega)
          have HFX := hid ((p_fx (by' T) g').2.2.2.2.2.1 (tok (by' T) j).nx l (by rw [by_len]; exact HTA.out.2.1))
          generalize bs (tok (by' T) j).text = tx at *
          generalize (tok (by' T) j).nx = nx at *
          clear s1 s2 h1 h2 hq3 hg hr
          go_wp2_with fail
          refine HO.out.mono ?_
          rintro e w2 ⟨rfl, hf2, hm2⟩
          have HF2 := hid (hF.out.trans hf2)
          have HX2 := hid (HX.out.fr hf2 hlt)
          have HC2 := hid (HP.out g' (by have := HG'.out; omega) x nx w2 (hm2.of rfl) hne)
          have HSZ2 := hid HF2.out.size
          clear hf2 hm2 HO
          go_wp2_with fail
          refine HC2.out.mono ?_
          rintro e w3 ⟨p3, rfl, hf3, hm3, ht3⟩
          have hm3 : RgW w3 R T (pPart (by' T) g' nx l) l := hm3
          have ht3 : ∀ t j, pPart (by' T) g' nx l = .ok t j → XT w2.heap.size w3 t (.pointer p3) := ht3
          obtain ⟨rn, hrn⟩ : ∃ rn : Res Tr, rn = (pPart (by' T) g' nx l).bind fun y j => .ok (.node 7 [] 0 0 [x, y]) j := ⟨_, rfl⟩
          have hXR := mk_two (k := 7) (op := tx) (q := rn) (p1 := p) (p2 := p3) hlt HOP.out (by decide) (HF2.out.trans hf3) (by rw [hrn]; exact hm3.map _) (fun t jj h => by
            rw [hrn] at h
            obtain ⟨y, a3, h3, h⟩ := Res.bind_ok h
            injection h with h _
            exact ⟨x, y, h.symm, HX2.out.fr hf3 hlt, (ht3 _ _ h3).mono HSZ2.out⟩)
          have HXR := hid hXR
          have HQN : Hid (∃ g, g ≤ f ∧ q = rn.bind fun x j => pProdL (by' T) g x j l) := ⟨g', by have := HG'.out; omega, by
            rw [HQ3.out, hrn]
            cases pPart (by' T) g' nx l <;> rfl⟩
          have HPR : Hid (∀ y j, rn = .ok y j → nx ≤ j ∧ j ≤ T.size) := fun y j h => by
            rw [hrn] at h
            obtain ⟨y', a3, h3, h⟩ := Res.bind_ok h
            injection h with _ h
            subst h
            have k3 := HFX.out
            rw [h3] at k3
            have := k3.1
            have := k3.2
            rw [by_len] at this
            omega
          clear hf3 hm3 ht3 HC2 hXR hrn hne
          go_wp2_with fail
          go_roundw
          case rel =>
            obtain ⟨p4, e4, h1, h2, h3⟩ := HXR.out
            injection e4 with e4
            injection e4 with e4
            exact ⟨_, rn, rfl, h1, h2, by rw [e4]; exact h3, HQN.out⟩
          case measure =>
            obtain ⟨p4, e4, h1, h2, h3⟩ := HXR.out
            rw [HGM.out]
            exact rgm_lt h2 (fun y j h => by have := HPR.out y j h; have := HNX.out; omega) (by have := HTA.out; omega)
        · have t1 : ((bs (tok (by' T) j).text).toList == [42]) = false := by rw [bs_list]; simp; exact fun e => h1 (s1.2 e)
          have t2 : ((bs (tok (by' T) j).text).toList == [47]) = false := by rw [bs_list]; simp; exact fun e => h2 (s2.2 e)
          rw [if_neg h1, if_neg h2] at hq3
          have HE : Hid (XR R T q l w (.returned (.pointer p)) wr) := ⟨_, rfl, hF.out, by rw [hq3, ← hr]; exact hM.out, fun t jj h => hT.out t jj (by rw [hr, ← hq3]; exact h)⟩
          generalize bs (tok (by' T) j).text = tx at *
          clear s1 s2 h1 h2 hq3 hg hr
          go_wp2_with fail
          go_ret
          exact HE.out
    · obtain ⟨g, hgf, hq2⟩ := hG.out
      have hqb : q = rc := by
        rcases hr with h1 | ⟨x, j, h1, h0, rfl, rfl⟩
        · rw [hq2, h1]; rfl
        · rw [h1] at hq2 ⊢
          have hq2 : q = pProdL (by' T) g x j l := hq2
          cases g with
          | zero => rw [pProdL] at hq2; exact absurd hq2 HRO.out
          | succ g => rw [hq2, pProdL, if_neg (by omega), if_neg (by omega)]
      obtain ⟨he, at', tk, dp, hR⟩ := hfa
      have c4 := hR.c4
      have q4 : ((e : Int) == 0) = false := by simp; omega
      have HE : Hid (XR R T q l w (.returned (.pointer p)) wr) := ⟨_, rfl, hF.out, by rw [hqb]; exact hM.out, fun t jj h => hT.out t jj (by rw [← hqb]; exact h)⟩
      clear hr hR he hq2 hqb hgf
      go_wp2_with fail
      go_ret
      exact HE.out

end Go.Proofs.YtmmgkdcojkmlcaaGreatDoor

namespace Go.Proofs.YtmmgkdcojkmlcaaGreatDoor
open Go.RowKit

/-- expressions in a row of the call's own -/
def RowX (base : Nat) (w : World) (v : Value) (ts : List Tr) : Prop := ∃ vals : List Value, w.ownsRow base 49 1 v ts.length vals ∧ ∀ (i : Nat) t, ts[i]? = some t → ∃ u, vals[i]? = some u ∧ XTB (fun b => base ≤ b ∧ some b ≠ v.ownBlock) w t u
theorem RowX.fr {R base : Nat} {w w' : World} {v : Value} {ts : List Tr} (h : RowX base w v ts) (f : Fr R w w') (hb : R < base) : RowX base w' v ts := by
  obtain ⟨vals, h1, h2⟩ := h
  refine ⟨vals, ownsRow_fr h1 f hb, fun i t ht => ?_⟩
  obtain ⟨u, h3, h4⟩ := h2 i t ht
  exact ⟨u, h3, XTB.keep (fun b hB hl => ⟨hB, f.2 b hl (by omega)⟩) t u h4⟩
theorem RowX.nil (base : Nat) (w : World) : RowX base w (.slice none 0 0) [] := ⟨[], World.ownsRow_nil _ _ _ _, fun i t ht => by simp at ht⟩
theorem RowX.form {base : Nat} {w : World} {v : Value} {ts : List Tr} (h : RowX base w v ts) : ∃ a c, v = .slice a ts.length c := by
  obtain ⟨vals, h1, _⟩ := h
  rcases h1.2 with ⟨rfl, h0⟩ | ⟨g, cap, cur, rfl, _⟩
  · exact ⟨none, 0, by rw [h0]⟩
  · exact ⟨_, _, rfl⟩
/-- one more -/
theorem RowX.push {base : Nat} {W w2 : World} {v v' : Value} {ts : List Tr} {t : Tr} {u : Value} {vals : List Value} (h1 : W.ownsRow base 49 1 v ts.length vals) (h2 : ∀ (i : Nat) t, ts[i]? = some t → ∃ u, vals[i]? = some u ∧ XTB (fun b => base ≤ b ∧ some b ≠ v.ownBlock) W t u)
    (hu : XTB (fun b => base ≤ b ∧ some b ≠ v.ownBlock) W t u) (ho : w2.ownsRow base 49 1 v' (ts.length + 1) (vals ++ [u])) (hg : W.grownBy w2 v.ownBlock) (hw : v'.ownBlock = v.ownBlock ∨ v'.ownBlock = some W.heap.size) : RowX base w2 v' (ts ++ [t]) := by
  have hk : ∀ b, (base ≤ b ∧ some b ≠ v.ownBlock) → b < W.heap.size → (base ≤ b ∧ some b ≠ v'.ownBlock) ∧ w2.heap[b]? = W.heap[b]? := fun b hB hl => by
    refine ⟨⟨hB.1, ?_⟩, hg.block b hl hB.2⟩
    rcases hw with e | e
    · rw [e]; exact hB.2
    · rw [e]; intro e2; injection e2; omega
  have hlen : vals.length = ts.length := by have := h1.1; omega
  refine ⟨vals ++ [u], by rw [List.length_append]; exact ho, fun i x hx => ?_⟩
  rcases Nat.lt_or_ge i ts.length with hi | hi
  · rw [List.getElem?_append_left hi] at hx
    obtain ⟨y, h3, h4⟩ := h2 i x hx
    exact ⟨y, by rw [List.getElem?_append_left (by omega)]; exact h3, XTB.keep hk x y h4⟩
  · have hi2 : i = ts.length := by
      have : i < (ts ++ [t]).length := (List.getElem?_eq_some_iff.1 hx).1
      simp at this
      omega
    subst hi2
    simp at hx
    subst hx
    exact ⟨u, by rw [← hlen]; simp, XTB.keep hk t u hu⟩
/-- what list gives -/
def VLX (lo : Nat) : World → Value → List Tr → Prop := fun w v ts => ∃ a c, v = .slice a ts.length c ∧ XTs lo w a ts 0
theorem RowX.vl {base : Nat} {w : World} {v : Value} {ts : List Tr} (h : RowX base w v ts) : VLX base w v ts := by
  obtain ⟨vals, h1, h2⟩ := h
  rcases h1.2 with ⟨rfl, h0⟩ | ⟨g, cap, cur, rfl, hbs, _⟩
  · obtain rfl : ts = [] := List.length_eq_zero_iff.1 h0
    exact ⟨none, 0, rfl, trivial⟩
  · refine ⟨_, _, rfl, XTBs_of hbs ts 0 fun j hj => ?_⟩
    obtain ⟨u, h3, h4⟩ := h2 j ts[j] (by simp [hj])
    have h5 := h1.cells (g := g) rfl j u h3
    have hadd : (⟨g, 0, none⟩ : Addr).add j = ⟨g, 0 + j, none⟩ := by unfold Addr.add; split <;> simp_all
    rw [hadd] at h5
    refine ⟨u, h5, fun t ht => ?_⟩
    simp [hj] at ht
    subst ht
    exact XTB.keep (fun b hB _ => ⟨hB.1, rfl⟩) _ _ h4

end Go.Proofs.YtmmgkdcojkmlcaaGreatDoor
