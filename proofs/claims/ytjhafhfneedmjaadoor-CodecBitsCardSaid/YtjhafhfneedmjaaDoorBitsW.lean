/-
  The walk over glacierlaw1.CodecBits: for any payload and any place the answer is true, and no memory that was there is changed.
-/
import Derived.Test.YtjhafhfneedmjaaDoorRfW
import Derived.Test.YtjhafhfneedmjaaDoorBack
namespace Go.Proofs.YtjhafhfneedmjaaDoor
open Go.RowKit

theorem frame_at (l : List UInt8) (j : Nat) (hj : j < l.length) : (bs (frame l))[(frame l).length - l.length + j]? = some (.int .u8 (l[j].toNat : Int)) := by
  have hlen := frame_eq_length l
  have h1 : (frame l)[(frame l).length - l.length + j]? = some l[j] := by
    rw [hlen]
    unfold frame
    rw [List.getElem?_append_right (by omega), List.getElem?_append_right (by rw [four_length]; omega), four_length, show (num l.length).length + 4 + l.length - l.length + j - (num l.length).length - 4 = j from by omega]
    exact List.getElem?_eq_getElem hj
  simp [bs, bv, h1]

theorem flip_bit (x : UInt8) (k : Nat) (hk : k < 8) : ∃ y : UInt8, y ≠ x ∧ bits .xor .u8 (x.toNat : Int) (2 ^ k % 256) = (y.toNat : Int) := by
  have hx := x.toNat_lt
  have h2 : 2 ^ k < 256 := Nat.pow_lt_pow_right (a := 2) (n := 8) (by decide) hk
  have hp : 0 < 2 ^ k := Nat.pow_pos (by decide)
  have hlt : x.toNat ^^^ 2 ^ k < 256 := Nat.xor_lt_two_pow (n := 8) (by omega) h2
  refine ⟨UInt8.ofNat (x.toNat ^^^ 2 ^ k), fun h => ?_, ?_⟩
  · have h1 := congrArg UInt8.toNat h
    rw [toNat_of _ hlt] at h1
    have h3 : 2 ^ k ^^^ x.toNat = 0 ^^^ x.toNat := by rw [Nat.xor_comm, h1, Nat.zero_xor]
    have := xor_inj _ _ _ h3
    omega
  · rw [toNat_of _ hlt, show (2 : Int) ^ k % 256 = ((2 ^ k : Nat) : Int) from by
      rw [show (2 : Int) ^ k = ((2 ^ k : Nat) : Int) from by simp]
      omega]
    exact u8_xor_nat _ _ (by omega) h2
theorem own_set {w : World} {base g n cap i : Nat} {l : List UInt8} (h : Own w base (.slice (some ⟨g, 0, none⟩) n cap) l) (hn : l.length = n) (y : UInt8) :
    Own (w.setCell ⟨g, i, none⟩ (.int .u8 (y.toNat : Int))) base (.slice (some ⟨g, 0, none⟩) n cap) (l.set i y) := by
  subst hn
  have h0 : w.ownsRow base 5 1 (.slice (some ⟨g, 0, none⟩) l.length cap) l.length (bs l) := h
  refine Own.of (World.ownsRow.stored h0 i (.int .u8 (y.toNat : Int))).1 (by simp) ?_
  simp [bs, bv, List.map_set]

set_option maxRecDepth 100000 in
set_option maxHeartbeats 2000000 in
theorem bits_any (v : Value) (l : List UInt8) (place : Int) (w : World) (h : Rd w w.heap.size v l) (ht : Tabs w) (_hm1 : -9223372036854775808 ≤ place) (_hm2 : place ≤ 9223372036854775807) :
    Calls Tryd.prog 8 #[v, .int .i64 place] w fun e w' => e = .returned (.bool true) ∧ Below w.heap.size w w' := by
  have HT := Lib.hid ht
  have HR := Lib.hid h
  obtain ⟨p, cap, rfl, hlc, hl47, hcm, hat⟩ := h.form
  clear ht h hat
  go_enter Tryd.func8, Tryd.ntmps8
  go_wp2_with fail
  refine (known_any w HT.out).mono ?_
  rintro e w1 ⟨rfl, hb1⟩
  have HR1 := Lib.hid (HR.out.below hb1)
  have HT1 := Lib.hid (HT.out.under hb1 HT.out.two)
  have HB1 := Lib.hid hb1
  have hsz1 := hb1.size
  clear hb1
  by_cases h0 : l.length = 0
  · have d0 : ((l.length : Int) == 0) = true := beq_iff_eq.2 (by omega)
    clear h0
    go_wp2_with fail
    go_ret
    exact ⟨rfl, HB1.out⟩
  have d0 : ((l.length : Int) == 0) = false := beq_eq_false_iff_ne.2 (by omega)
  by_cases hbig : 65536 < l.length
  · have d1 : decide ((65536 : Int) < (l.length : Int)) = true := by simp; omega
    clear h0
    go_wp2_with fail
    go_ret
    exact ⟨rfl, HB1.out⟩
  have d1 : decide ((65536 : Int) < (l.length : Int)) = false := by simp; omega
  obtain ⟨T, hT⟩ : ∃ T : Int, place.tmod (8 * (l.length : Int)) = T := ⟨_, rfl⟩
  have ht1 : T < 8 * (l.length : Int) := by rw [← hT]; exact Int.tmod_lt_of_pos _ (by omega)
  have ht2 : -(8 * (l.length : Int)) < T := by rw [← hT]; exact Int.lt_tmod_of_pos _ (by omega)
  by_cases hneg : T < 0
  · obtain ⟨A, hA⟩ : ∃ A : Nat, T + 8 * (l.length : Int) = (A : Int) := ⟨(T + 8 * (l.length : Int)).toNat, by omega⟩
    have hA1 : A < 8 * l.length := by omega
    clear h0
    have hj : A / 8 < l.length := by omega
    go_wp2_with fail
    refine (frame_any _ l w.heap.size w1 HR1.out hsz1 HT1.out (by omega)).mono ?_
    rintro e w2 ⟨v2, rfl, hown2, hb2⟩
    have HT2 := Lib.hid (HT1.out.under hb2 HT1.out.two)
    have HB2 := Lib.hid (HB1.out.trans (hb2.mono hsz1))
    have hfl := frame_eq_length l
    have hnp := num_len_pos l.length
    have hnt := num_len10 l.length (by omega)
    rcases id hown2.2 with ⟨rfl, hz⟩ | ⟨g, fcap, cur, rfl, hbg, _⟩
    · omega
    have hcell := World.ownsRow.cellAt hown2 ((frame l).length - l.length + A / 8) (by omega)
    rw [frame_at l (A / 8) hj] at hcell
    have hfree := World.ownsRow.frozenAt hown2 ((frame l).length - l.length + A / 8)
    obtain ⟨F, hF⟩ : ∃ F, (frame l).length = F := ⟨_, rfl⟩
    obtain ⟨I, hI⟩ : ∃ I : Nat, F - l.length + A / 8 = I := ⟨_, rfl⟩
    have hIi : (F : Int) - (l.length : Int) + (A : Int) / 8 = (I : Int) := by omega
    rw [hF, hI] at hcell hfree
    have HO2 := Lib.hid hown2
    rw [hF] at hfl ⊢
    have hIF : I < F := by omega
    have hF1 : F ≤ 1000000 := by omega
    have hF2 : l.length + 5 ≤ F := by omega
    have HF := Lib.hid hF
    have HI := Lib.hid hI
    clear hown2 hF hI hfl
    obtain ⟨y, hyx, hbit⟩ := flip_bit l[A / 8] (A % 8) (by omega)
    have HE0 := Lib.hid (rdFrame_set l (A / 8) y (by omega) hj hyx)
    clear hyx
    generalize l[A / 8] = x at *
    have HO3 := Lib.hid (own_set (n := F) (i := I) (by rw [← HF.out]; exact HO2.out) HF.out y)
    have HB3 := Lib.hid (HB2.out.setCell (p := ⟨g, I, none⟩) (show w.heap.size ≤ g by omega) (.int .u8 (y.toNat : Int)))
    have HT3 := Lib.hid (HT.out.under HB3.out HT.out.two)
    have hsl : ((frame l).set I y).length = F := by rw [List.length_set]; exact HF.out
    have HRd := Lib.hid (HO3.out.rd (by omega))
    have HE := Lib.hid (show rdFrame ((frame l).set I y) = ([], 0, 13) by
      rw [← HI.out, ← HF.out]
      exact HE0.out)
    have HRe : Hid (Rd (w2.setCell ⟨g, I, none⟩ (.int .u8 (y.toNat : Int))) (w2.setCell ⟨g, I, none⟩ (.int .u8 (y.toNat : Int))).heap.size (.slice (some ⟨g, 0, none⟩) F fcap) ((frame l).set I y)) := HRd
    clear hsl
    go_wp2_with fail
    refine (readFrame_any _ ((frame l).set I y) _ _ HRe.out (Nat.le_refl _) HT3.out).mono ?_
    rintro e w4 ⟨v4, rfl, _, _, hb4⟩
    rw [HE.out]
    have HB4 := Lib.hid (HB3.out.trans (hb4.mono (by exact HB3.out.size)))
    clear hb4
    go_wp2_with fail
    go_ret
    exact ⟨rfl, HB4.out⟩
  · obtain ⟨A, hA⟩ : ∃ A : Nat, T = (A : Int) := ⟨T.toNat, by omega⟩
    subst hA
    have hA1 : A < 8 * l.length := by omega
    clear h0
    have hj : A / 8 < l.length := by omega
    go_wp2_with fail
    refine (frame_any _ l w.heap.size w1 HR1.out hsz1 HT1.out (by omega)).mono ?_
    rintro e w2 ⟨v2, rfl, hown2, hb2⟩
    have HT2 := Lib.hid (HT1.out.under hb2 HT1.out.two)
    have HB2 := Lib.hid (HB1.out.trans (hb2.mono hsz1))
    have hfl := frame_eq_length l
    have hnp := num_len_pos l.length
    have hnt := num_len10 l.length (by omega)
    rcases id hown2.2 with ⟨rfl, hz⟩ | ⟨g, fcap, cur, rfl, hbg, _⟩
    · omega
    have hcell := World.ownsRow.cellAt hown2 ((frame l).length - l.length + A / 8) (by omega)
    rw [frame_at l (A / 8) hj] at hcell
    have hfree := World.ownsRow.frozenAt hown2 ((frame l).length - l.length + A / 8)
    obtain ⟨F, hF⟩ : ∃ F, (frame l).length = F := ⟨_, rfl⟩
    obtain ⟨I, hI⟩ : ∃ I : Nat, F - l.length + A / 8 = I := ⟨_, rfl⟩
    have hIi : (F : Int) - (l.length : Int) + (A : Int) / 8 = (I : Int) := by omega
    rw [hF, hI] at hcell hfree
    have HO2 := Lib.hid hown2
    rw [hF] at hfl ⊢
    have hIF : I < F := by omega
    have hF1 : F ≤ 1000000 := by omega
    have hF2 : l.length + 5 ≤ F := by omega
    have HF := Lib.hid hF
    have HI := Lib.hid hI
    clear hown2 hF hI hfl
    obtain ⟨y, hyx, hbit⟩ := flip_bit l[A / 8] (A % 8) (by omega)
    have HE0 := Lib.hid (rdFrame_set l (A / 8) y (by omega) hj hyx)
    clear hyx
    generalize l[A / 8] = x at *
    have HO3 := Lib.hid (own_set (n := F) (i := I) (by rw [← HF.out]; exact HO2.out) HF.out y)
    have HB3 := Lib.hid (HB2.out.setCell (p := ⟨g, I, none⟩) (show w.heap.size ≤ g by omega) (.int .u8 (y.toNat : Int)))
    have HT3 := Lib.hid (HT.out.under HB3.out HT.out.two)
    have hsl : ((frame l).set I y).length = F := by rw [List.length_set]; exact HF.out
    have HRd := Lib.hid (HO3.out.rd (by omega))
    have HE := Lib.hid (show rdFrame ((frame l).set I y) = ([], 0, 13) by
      rw [← HI.out, ← HF.out]
      exact HE0.out)
    have HRe : Hid (Rd (w2.setCell ⟨g, I, none⟩ (.int .u8 (y.toNat : Int))) (w2.setCell ⟨g, I, none⟩ (.int .u8 (y.toNat : Int))).heap.size (.slice (some ⟨g, 0, none⟩) F fcap) ((frame l).set I y)) := HRd
    clear hsl
    go_wp2_with fail
    refine (readFrame_any _ ((frame l).set I y) _ _ HRe.out (Nat.le_refl _) HT3.out).mono ?_
    rintro e w4 ⟨v4, rfl, _, _, hb4⟩
    rw [HE.out]
    have HB4 := Lib.hid (HB3.out.trans (hb4.mono (by exact HB3.out.size)))
    clear hb4
    go_wp2_with fail
    go_ret
    exact ⟨rfl, HB4.out⟩
end Go.Proofs.YtjhafhfneedmjaaDoor
