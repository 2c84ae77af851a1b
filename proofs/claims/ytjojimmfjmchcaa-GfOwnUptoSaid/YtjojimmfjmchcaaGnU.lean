/-
  The walk over GfOwn.
-/
import Derived.Test.YtjojimmfjmchcaaGnT
namespace Go.Proofs.Ytjojimmfjmchcaa
open Go.RowKit

set_option maxRecDepth 100000 in
set_option maxHeartbeats 4000000 in
theorem owns_any (w : World) (v t : Value) (A : List (List UInt8)) (ns : List Int) (ha : Mx w (fun k => k < w.heap.size) v A) (hn : Cl w (fun k => k < w.heap.size) t ns.length (ns.map (Value.int .i64)))
    (ha1 : A.length ≤ 1048576) (ha2 : ∀ l ∈ A, l.length ≤ 1048576) :
    Calls Try.prog 8 #[v, t] w fun e w' => e = .returned (.bool true) ∧ Below w.heap.size w w' := by
  have HA := Lib.hid ha
  have HN := Lib.hid hn
  have HS : Hid (SmlL A) := Lib.hid ⟨ha1, ha2⟩
  obtain ⟨pa, ca, rfl, _, _, _, _⟩ := ha.form
  obtain ⟨pn, cn, rfl, _, _, _, _⟩ := hn.form
  clear ha hn ha2
  go_enter Try.func8, Try.ntmps8
  go_wp2_with fail
  refine (known_any w).mono ?_
  rintro e w1 ⟨rfl, hbw⟩
  have HB1 := Lib.hid hbw
  have HF1 := Lib.hid (few_any w1 _ _ A (HA.out.under hbw) ha1 HS.out.2)
  clear hbw
  cases hf1 : fewM A
  · rw [hf1] at HF1
    clear hf1
    go_wp2_with fail
    refine HF1.out.mono ?_
    rintro e w' ⟨rfl, rfl⟩
    go_wp2_with fail
    go_ret
    exact ⟨rfl, HB1.out⟩
  · rw [hf1] at HF1
    clear hf1
    by_cases g2 : 300 < ns.length
    · have d3 : decide ((300 : Int) < (ns.length : Int)) = true := decide_eq_true (by omega)
      have d4 : decide (300 < ns.length) = true := decide_eq_true g2
      clear g2
      go_wp2_with fail
      refine HF1.out.mono ?_
      rintro e w' ⟨rfl, rfl⟩
      go_wp2_with fail
      go_ret
      exact ⟨rfl, HB1.out⟩
    · have d3 : decide ((300 : Int) < (ns.length : Int)) = false := decide_eq_false (by omega)
      have d4 : decide (300 < ns.length) = false := decide_eq_false g2
      have HA1 := Lib.hid (HA.out.under HB1.out)
      go_wp2_with fail
      refine HF1.out.mono ?_
      rintro e w' ⟨rfl, rfl⟩
      go_wp2_with fail
      go_loopw [5, 6] (fun x i wr => ∃ (k : Nat) (us : List Value), k ≤ A.length ∧ i = .int .i64 (k : Int) ∧ OwL wr (fun k => w1.heap.size ≤ k) x us (A.take k) ∧ Below w1.heap.size w1 wr) (fun _ i _ => A.length - (intOf i).toNat)
      case atStart => exact ⟨0, [], by omega, rfl, OwL.nil _ _, Below.refl _ _⟩
      case round =>
        obtain ⟨k, us, hk, rfl, ho, hb⟩ := hrel
        obtain ⟨x, hx⟩ : ∃ x, x = u5 := ⟨_, rfl⟩
        subst hx
        have HO := Lib.hid ho
        have HBw := Lib.hid hb
        by_cases hlt : k < A.length
        · have e1 : decide ((k : Int) < (A.length : Int)) = true := decide_eq_true (by omega)
          have e2 : decide (k < A.length) = true := decide_eq_true hlt
          have hAq : A[k]? = some A[k] := List.getElem?_eq_getElem hlt
          have hll := HS.out.2 _ (List.getElem_mem hlt)
          obtain ⟨b0, o0, q0, c0, rfl, hbl0, _, k3, r3⟩ := HA.out.at_ hAq
          have hbl : b0 < w1.heap.size := Nat.lt_of_lt_of_le hbl0 HB1.out.size
          have k3 := (below_cells HB1.out b0 _ hbl0).trans k3
          have k4 := (below_cells hb b0 _ hbl).trans k3
          obtain ⟨X, hX⟩ : ∃ X, wr.alloc (.cells #[] 5) = X := ⟨_, rfl⟩
          have hXb : Below wr.heap.size wr X := by rw [← hX]; exact bel_alloc _ _
          have HL0 : Hid (Own X wr.heap.size (.slice (some ⟨wr.heap.size, 0, none⟩) 0 0) []) := Lib.hid (by rw [← hX]; exact own_lit1 wr)
          have r31 := r3.step (Fr.of_below HB1.out) (S := fun k => w.heap.size ≤ k) (fun k _ h => by omega)
          have r32 := By.step r31 (Fr.of_below hb) (S := fun k => w1.heap.size ≤ k) (fun k _ h => by have := HB1.out.size; omega)
          have HRd := Lib.hid (r32.below hXb).rd
          have k4x := (below_cells hXb b0 _ (block_lt_of_cell k4)).trans k4
          have HXb := Lib.hid hXb
          have HSn : Hid (A.take (k + 1) = A.take k ++ [A[k]]) := Lib.hid (take_snoc A k _ hAq)
          have HT1 : Hid ((A.take k).length = k) := Lib.hid (by rw [List.length_take]; omega)
          generalize A[k] = rw_ at *
          generalize A.take k = tb at *
          clear ho hb hAq k3 r3 hXb r31 r32
          go_wp2_with (first
            | (at_builtin
               refine wpList_append_rd rfl (.tmp 34) (.tmp 38) rfl wr.heap.size _ _ _ [] rw_ rfl HL0.out rfl HRd.out (by simp; omega) HXb.out.size ?_
               intro v3 w3 ho3 hb3
               obtain ⟨p3, c3, rfl⟩ := own_shape ho3
               have HO3 : Hid (Own w3 wr.heap.size (.slice p3 ([] ++ rw_).length c3) rw_) := Lib.hid (by simpa using ho3)
               have HB3 := Lib.hid (HXb.out.trans hb3)
               have HBY := Lib.hid (HB3.out.alloc HB3.out.size (.cells #[.slice p3 ([] ++ rw_).length c3] 48))
               have HRow := Lib.hid (HO.out.below HBY.out).row
               have HCl := Lib.hid (one_cl (Y := w3) (.slice p3 ([] ++ rw_).length c3) (fun _ => True) trivial)
               clear ho3 hb3)
            | (at_builtin
               refine slMx.wpList_append rfl (.tmp 33) (.tmp 40) rfl 0 rfl rfl HRow.out HCl.out rfl (fun x hx => by rw [List.mem_singleton.1 hx]; rfl) (by have := HT1.out; omega) (Nat.zero_le _) ?_
               intro v4 w4 ho4 hg4 ha4
               have HNx := Lib.hid (HO.out.push1 HB3.out HO3.out rfl (fun b hb => Nat.le_trans HBw.out.size hb) ho4 hg4 ha4)
               have HNb := Lib.hid (below_push (w := w1) HO.out HBw.out HBY.out hg4)
               clear ho4 hg4 ha4))
          exact ⟨⟨k + 1, _, by omega, by go_num, by rw [HSn.out]; exact HNx.out, HNb.out⟩, by simp [intOf]; omega⟩
        · obtain rfl : k = A.length := by omega
          have hO := HO.out
          rw [List.take_length] at hO
          have HOm : Hid (OwL wr (fun k => w1.heap.size ≤ k ∧ k < wr.heap.size) x us A) := Lib.hid (hO.mono fun k h1 h2 => ⟨h2, h1⟩)
          have HBM : Hid (Below w.heap.size w wr) := Lib.hid (HB1.out.trans (HBw.out.mono HB1.out.size))
          have HI := Lib.hid (inverse_m wr _ _ A (HOm.out.see HS.out))
          have HSm := Lib.hid (And.intro (times_sml A A) (And.intro (inverse_sml A) (rows_sml A ns)))
          have HRw : Hid (∀ W : World, Below w.heap.size w W → OwL W (fun k => w1.heap.size ≤ k ∧ k < wr.heap.size) x us A → Calls Try.prog 35 #[x, .slice pn ns.length cn] W fun e w' => ∃ y us, e = .returned (.tuple #[y, .int .i64 (rowsR A ns).2]) ∧ OwL w' (fun k => W.heap.size ≤ k) y us (rowsR A ns).1 ∧ Below W.heap.size W w') := Lib.hid (fun W h hW => rows_m W _ _ _ _ A ns (hW.see HS.out) (HN.out.step (Fr.of_below h) fun k _ h1 h2 => by omega))
          have HRr : Hid (∀ W : World, Below w.heap.size w W → Calls Try.prog 36 #[.slice pa A.length ca, .slice pn ns.length cn] W fun e w' => ∃ y us, e = .returned (.tuple #[y, .int .i64 (rowsR A ns).2]) ∧ OwL w' (fun k => W.heap.size ≤ k) y us (rowsR A ns).1 ∧ Below W.heap.size W w') := Lib.hid (fun W h => rrows_m W _ _ _ _ A ns (HA.out.under h) (HN.out.step (Fr.of_below h) fun k _ h1 h2 => by omega))
          have HTm : Hid (∀ W : World, OwL W (fun k => w1.heap.size ≤ k ∧ k < wr.heap.size) x us A → Calls Try.prog 29 #[x, x] W fun e w' => ∃ y us, e = .returned (.tuple #[y, .int .i64 (timesR A A).2]) ∧ OwL w' (fun k => W.heap.size ≤ k) y us (timesR A A).1 ∧ Below W.heap.size W w') := Lib.hid (fun W hW => times_m W _ _ _ _ A A (hW.see HS.out) (hW.see HS.out))
          have HWs : Hid (w.heap.size ≤ w1.heap.size ∧ w1.heap.size ≤ wr.heap.size) := Lib.hid ⟨HB1.out.size, HBw.out.size⟩
          generalize timesR A A = T at *
          generalize inverseR A = I at *
          generalize rowsR A ns = R at *
          obtain ⟨T1, T2⟩ := T
          obtain ⟨I1, I2⟩ := I
          obtain ⟨R1, R2⟩ := R
          obtain ⟨px, cx, rfl⟩ := hO.shape
          clear ho hb hO
          go_wp2_with fail
          refine HI.out.mono ?_
          rintro e w2 ⟨xa, usa, rfl, hoa, hb2⟩
          have HOa : Hid (OwL w2 (fun k => wr.heap.size ≤ k ∧ k < w2.heap.size) xa usa I1) := Lib.hid (hoa.mono fun k h1 h2 => ⟨h2, h1⟩)
          have HOm2 := Lib.hid (HOm.out.below hb2)
          have HB2 := Lib.hid (HBM.out.trans (hb2.mono HBM.out.size))
          have HW2 : Hid (wr.heap.size ≤ w2.heap.size) := Lib.hid hb2.size
          clear hoa hb2
          go_wp2_with fail
          refine (HRw.out w2 HB2.out HOm2.out).mono ?_
          rintro e w3 ⟨xb, usb, rfl, hob, hb3⟩
          have HOb : Hid (OwL w3 (fun k => w2.heap.size ≤ k ∧ k < w3.heap.size) xb usb R1) := Lib.hid (hob.mono fun k h1 h2 => ⟨h2, h1⟩)
          have HOm3 := Lib.hid (HOm2.out.below hb3)
          have HOa3 := Lib.hid (HOa.out.below hb3)
          have HB3 := Lib.hid (HB2.out.trans (hb3.mono HB2.out.size))
          have HW3 : Hid (w2.heap.size ≤ w3.heap.size) := Lib.hid hb3.size
          clear hob hb3
          go_wp2_with fail
          refine (HTm.out w3 HOm3.out).mono ?_
          rintro e w4 ⟨xc, usc, rfl, hoc, hb4⟩
          have HOc := Lib.hid hoc
          have HOm4 := Lib.hid (HOm3.out.below hb4)
          have HOa4 := Lib.hid (HOa3.out.below hb4)
          have HOb4 := Lib.hid (HOb.out.below hb4)
          have HB4 := Lib.hid (HB3.out.trans (hb4.mono HB3.out.size))
          have HSpA := Lib.hid (spoil_any w4 _ _ _ _ HOa4.out HSm.out.2.1.1 HSm.out.2.1.2)
          clear hoc hb4
          go_wp2_with fail
          refine HSpA.out.mono ?_
          rintro e w5 ⟨rfl, hf5⟩
          have HOm5 := Lib.hid (HOm4.out.step hf5 fun k _ h1 h2 => by have := h1.2; have := h2.1; omega)
          have HOb5 := Lib.hid (HOb4.out.step hf5 fun k _ h1 h2 => by have := h1.1; have := h2.2; omega)
          have HOc5 := Lib.hid (HOc.out.step hf5 fun k _ h1 h2 => by have := h2.2; have := HW3.out; omega)
          have HB5 := Lib.hid (HB4.out.trans (hf5.below HB4.out.size fun k hk h => by have := h.1; have := HWs.out; omega))
          have HSpB := Lib.hid (spoil_any w5 _ _ _ _ HOb5.out HSm.out.2.2.1 HSm.out.2.2.2)
          clear hf5
          go_wp2_with fail
          refine HSpB.out.mono ?_
          rintro e w6 ⟨rfl, hf6⟩
          have HOm6 := Lib.hid (HOm5.out.step hf6 fun k _ h1 h2 => by have := h1.2; have := h2.1; have := HW2.out; omega)
          have HOc6 := Lib.hid (HOc5.out.step hf6 fun k _ h1 h2 => by have := h2.2; omega)
          have HB6 := Lib.hid (HB5.out.trans (hf6.below HB5.out.size fun k hk h => by have := h.1; have := HWs.out; have := HW2.out; omega))
          have HSpC := Lib.hid (spoil_any w6 _ _ _ _ HOc6.out HSm.out.1.1 HSm.out.1.2)
          clear hf6
          go_wp2_with fail
          refine HSpC.out.mono ?_
          rintro e w7 ⟨rfl, hf7⟩
          have HOm7 := Lib.hid (HOm6.out.step hf7 fun k _ h1 h2 => by have := h1.2; have := HW2.out; have := HW3.out; omega)
          have HB7 := Lib.hid (HB6.out.trans (hf7.below HB6.out.size fun k hk h => by have := HWs.out; have := HW2.out; have := HW3.out; omega))
          have HSa := Lib.hid (same_any w7 _ _ _ _ A A (HOm7.out.see HS.out) (HA.out.under HB7.out))
          rw [decide_eq_true rfl] at HSa
          clear hf7
          go_wp2_with fail
          refine HSa.out.mono ?_
          rintro e w8 ⟨rfl, n8, hw8⟩
          have HB8 : Hid (Below w.heap.size w w8) := Lib.hid (by rw [hw8]; exact below_drewN HB7.out n8)
          have HOm8 : Hid (OwL w8 (fun k => w1.heap.size ≤ k ∧ k < wr.heap.size) (.slice px A.length cx) us A) := Lib.hid (by rw [hw8]; exact HOm7.out.below (below_drewN (Below.refl _ _) n8))
          clear hw8
          go_wp2_with fail
          refine (HRw.out w8 HB8.out HOm8.out).mono ?_
          rintro e w9 ⟨xd, usd, rfl, hod, hb9⟩
          have HMd := Lib.hid (hod.see HSm.out.2.2)
          have HB9 := Lib.hid (HB8.out.trans (hb9.mono HB8.out.size))
          clear hod hb9
          go_wp2_with fail
          refine (HRr.out w9 HB9.out).mono ?_
          rintro e w10 ⟨xe, use, rfl, hoe, hb10⟩
          have HS2 := Lib.hid (same_any w10 _ _ xd xe R1 R1 (HMd.out.below hb10) (hoe.see HSm.out.2.2))
          have HB10 := Lib.hid (HB9.out.trans (hb10.mono HB9.out.size))
          rw [decide_eq_true rfl] at HS2
          clear hoe hb10
          go_wp2_with fail
          refine HS2.out.mono ?_
          rintro e w11 ⟨rfl, n11, hw11⟩
          have HB11 : Hid (Below w.heap.size w w11) := Lib.hid (by rw [hw11]; exact below_drewN HB10.out n11)
          clear hw11
          go_wp2_with fail
          go_ret
          exact ⟨by first | rfl | (simp; done), HB11.out⟩
end Go.Proofs.Ytjojimmfjmchcaa
