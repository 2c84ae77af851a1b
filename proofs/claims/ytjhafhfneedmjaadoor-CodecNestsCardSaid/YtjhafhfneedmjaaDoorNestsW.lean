/-
  The walk over glacierlaw1.CodecNests: for any bytes and any depth the answer is true, and no memory that was there is changed.
-/
import Derived.Test.YtjhafhfneedmjaaDoorRfW
import Derived.Test.YtjhafhfneedmjaaDoorByW
import Derived.Test.YtjhafhfneedmjaaDoorBack
namespace Go.Proofs.YtjhafhfneedmjaaDoor
open Go.RowKit

def nest (x : List UInt8) : Nat → List UInt8
  | 0 => x
  | k + 1 => if k % 2 = 0 then frame (nest x k) else num (nest x k).length ++ nest x k
theorem nest_even (x : List UInt8) (k : Nat) (h : k % 2 = 0) : nest x (k + 1) = frame (nest x k) := if_pos h
theorem nest_odd (x : List UInt8) (k : Nat) (h : ¬ k % 2 = 0) : nest x (k + 1) = num (nest x k).length ++ nest x k := if_neg h
theorem nest_len (x : List UInt8) (hx : x.length ≤ 1000) : ∀ k, k ≤ 200 → (nest x k).length ≤ 1000 + 14 * k := by
  intro k
  induction k with
  | zero => intro _; simpa [nest] using hx
  | succ k ih =>
    intro hk
    have h1 := ih (by omega)
    by_cases h : k % 2 = 0
    · rw [nest_even x k h]
      have := (frame_length (nest x k) (by omega)).1
      omega
    · rw [nest_odd x k h, List.length_append]
      have := num_len10 (nest x k).length (by omega)
      omega
theorem rdBytes_made (m : List UInt8) (M : Nat) (hM : M = (num m.length ++ m).length) (hm : m.length ≤ 67108864) : rdBytes (num m.length ++ m) M = (m, (num m.length ++ m).length, 0) := by
  have hl : (num m.length ++ m).length = (num m.length).length + m.length := List.length_append
  have h1 := rdNum_num m.length m (by omega)
  have h2 := rdLen_ok (num m.length ++ m) M 0 m.length (num m.length).length h1 (by omega) (by omega)
  rw [rdBytes_ok _ M _ _ h2, List.drop_left, List.take_length, hl]

set_option maxRecDepth 100000 in
set_option maxHeartbeats 4000000 in
theorem nests_any (vx : Value) (x : List UInt8) (deep : Int) (w : World) (hx : Rd w w.heap.size vx x) (ht : Tabs w) (hm1 : -9223372036854775808 ≤ deep) (hm2 : deep ≤ 9223372036854775807) :
    Calls Tryd.prog 10 #[vx, .int .i64 deep] w fun e w' => e = .returned (.bool true) ∧ Below w.heap.size w w' := by
  have HT := Lib.hid ht
  have HX := Lib.hid hx
  obtain ⟨p, cap, rfl, hlc, hl47, hcm, hat⟩ := hx.form
  clear ht hx hat
  go_enter Tryd.func10, Tryd.ntmps10
  go_wp2_with fail
  refine (known_any w HT.out).mono ?_
  rintro e w1 ⟨rfl, hb1⟩
  have HB1 := Lib.hid hb1
  have hsz1 := hb1.size
  have HX1 := Lib.hid (HX.out.below hb1)
  clear hb1
  by_cases hbig : 1000 < x.length
  · have d1 : decide ((1000 : Int) < (x.length : Int)) = true := by simp; omega
    go_wp2_with fail
    go_ret
    exact ⟨rfl, HB1.out⟩
  have d1 : decide ((1000 : Int) < (x.length : Int)) = false := by simp; omega
  by_cases hneg : deep < 0
  · have d2 : decide (deep < 0) = true := by simp; omega
    go_wp2_with fail
    go_ret
    exact ⟨rfl, HB1.out⟩
  have d2 : decide (deep < 0) = false := by simp; omega
  obtain ⟨D, rfl⟩ := Int.eq_ofNat_of_zero_le (show 0 ≤ deep by omega)
  by_cases hdeep : 200 < D
  · have d3 : decide ((200 : Int) < (D : Int)) = true := by simp; omega
    go_wp2_with fail
    go_ret
    exact ⟨rfl, HB1.out⟩
  have d3 : decide ((200 : Int) < (D : Int)) = false := by simp; omega
  have HN := Lib.hid (nest_len x (by omega))
  go_wp2_with (at_builtin; refine wpList_append_rd rfl _ _ rfl w1.heap.size w.heap.size _ _ [] x rfl (own_new0' w1) rfl (HX1.out.under (below_alloc w1 _) hsz1) (by simp; omega) (by simp) ?_; intro v2 w2 hown2 hb2)
  rw [List.nil_append] at hown2
  have HB2 := Lib.hid (HB1.out.trans (((below_alloc w1 _).trans hb2).mono hsz1))
  have HO2 := Lib.hid (hown2.rd (by omega))
  clear hown2 hb2
  go_loopw [5, 6] (fun t i wr => ∃ k : Nat, k ≤ D ∧ i = .int .i64 (k : Int) ∧ Rd wr wr.heap.size t (nest x k) ∧ Below w.heap.size w wr) (fun _ i _ => D - (intOf i).toNat)
  case atStart => exact ⟨0, by omega, rfl, HO2.out, HB2.out⟩
  case round =>
    obtain ⟨k, hk, rfl, hrd, hbw⟩ := hrel
    have hnl := HN.out k (by omega)
    have HR := Lib.hid hrd
    have HB := Lib.hid hbw
    have hsz := hbw.size
    have HTr := Lib.hid (HT.out.under hbw HT.out.two)
    obtain ⟨pb, cb, rfl⟩ := bytes_val hrd
    clear hrd hbw
    by_cases hlt : k < D
    · by_cases hev : k % 2 = 0
      · have b1 : ((k : Int) % 2 == 0) = true := beq_iff_eq.2 (by omega)
        have HS := Lib.hid (nest_even x k hev)
        clear hev
        generalize nest x k = m at *
        go_wp2_with fail
        refine (frame_any _ m wr.heap.size wr HR.out (Nat.le_refl _) HTr.out (by omega)).mono ?_
        rintro e w3 ⟨v3, rfl, hown3, hb3⟩
        have hfm := frame_length m (by omega)
        have HR3 := Lib.hid (hown3.rd (by omega))
        have HB3 := Lib.hid (HB.out.trans (hb3.mono hsz))
        clear hown3 hb3
        go_wp2_with fail
        go_roundw
        case rel => exact ⟨k + 1, by omega, by go_num, by rw [HS.out]; exact HR3.out, HB3.out⟩
        case measure => simp [intOf]; omega
      · have b1 : ((k : Int) % 2 == 0) = false := beq_eq_false_iff_ne.2 (by omega)
        have HS := Lib.hid (nest_odd x k hev)
        clear hev
        generalize nest x k = m at *
        go_wp2_with fail
        refine (bytes_any (.slice none 0 0) _ [] [m] 0 (wr.heap.size + 1) _ (Rd.none_ _ _) (Nat.zero_le _) (RdL.one HR.out (Nat.le_refl _) _) (by simp) (by simp [flen]; omega)).mono ?_
        rintro e w3 ⟨v3, rfl, hown3, hb3⟩
        have hfm := num_len10 m.length (by omega)
        have HR3 := Lib.hid (show Rd w3 w3.heap.size v3 (num m.length ++ m) by
          have h := hown3.rd (by simp [flen]; omega)
          simpa [flen] using h)
        have HB3 := Lib.hid (HB.out.trans (((below_alloc wr _).trans (hb3.mono (B' := wr.heap.size) (by simp))).mono hsz))
        clear hown3 hb3
        go_wp2_with fail
        go_roundw
        case rel => exact ⟨k + 1, by omega, by go_num, by rw [HS.out]; exact HR3.out, HB3.out⟩
        case measure => simp [intOf]; omega
    · obtain rfl : k = D := by omega
      go_wp2_with fail
      go_loopw [5, 7] (fun t i wq => ∃ j : Nat, j ≤ k ∧ i = .int .i64 ((j : Int) - 1) ∧ Rd wq wq.heap.size t (nest x j) ∧ Below w.heap.size w wq) (fun _ i _ => (intOf i + 1).toNat)
      case atStart => exact ⟨k, by omega, rfl, HR.out, HB.out⟩
      case round =>
        obtain ⟨j, hj, rfl, hrd, hbw⟩ := hrel
        have hnl2 := HN.out j (by omega)
        have HR2 := Lib.hid hrd
        have HBq := Lib.hid hbw
        have hszq := hbw.size
        have HTq := Lib.hid (HT.out.under hbw HT.out.two)
        obtain ⟨pq, cq, rfl⟩ := bytes_val hrd
        clear hrd hbw
        cases j with
        | zero =>
          go_wp2_with fail
          refine (same_any _ _ x x _ _ true _ HR2.out (HX.out.below HBq.out) (by simp)).mono ?_
          rintro e w4 ⟨rfl, rfl⟩
          go_wp2_with fail
          go_ret
          exact ⟨rfl, HBq.out⟩
        | succ j =>
          rw [show ((j + 1 : Nat) : Int) - 1 = (j : Int) from by omega]
          have hnl3 := HN.out j (by omega)
          by_cases hev : j % 2 = 0
          · have b1 : ((j : Int) % 2 == 0) = true := beq_iff_eq.2 (by omega)
            have HS := Lib.hid (show rdFrame (nest x (j + 1)) = (nest x j, (nest x (j + 1)).length, 0) by
              rw [nest_even x j hev]
              have h := rdFrame_frame (nest x j) [] (by omega)
              rw [List.append_nil] at h
              exact h)
            clear hev
            generalize nest x (j + 1) = M at *
            go_wp2_with fail
            refine (readFrame_any _ M _ _ HR2.out (Nat.le_refl _) HTq.out).mono ?_
            rintro e w4 ⟨v4, rfl, hr4, _, hb4⟩
            rw [HS.out] at hr4 ⊢
            have HR4 := Lib.hid hr4
            have HB4 := Lib.hid (HBq.out.trans (hb4.mono hszq))
            clear hr4 hb4
            go_wp2_with fail
            go_roundw
            case rel => exact ⟨j, by omega, rfl, HR4.out, HB4.out⟩
            case measure => simp [intOf]
          · have b1 : ((j : Int) % 2 == 0) = false := beq_eq_false_iff_ne.2 (by omega)
            have HS := Lib.hid (show rdBytes (nest x (j + 1)) (nest x (j + 1)).length = (nest x j, (nest x (j + 1)).length, 0) by
              rw [nest_odd x j hev]
              exact rdBytes_made (nest x j) _ rfl (by omega))
            clear hev
            generalize nest x (j + 1) = M at *
            go_wp2_with fail
            refine (readBytes_any _ M (M.length : Int) M.length _ _ HR2.out (Nat.le_refl _) (by omega) (by omega) (by omega)).mono ?_
            rintro e w4 ⟨v4, rfl, hr4, hb4⟩
            rw [HS.out] at hr4 ⊢
            have HR4 := Lib.hid hr4
            have HB4 := Lib.hid (HBq.out.trans (hb4.mono hszq))
            clear hr4 hb4
            go_wp2_with fail
            go_roundw
            case rel => exact ⟨j, by omega, rfl, HR4.out, HB4.out⟩
            case measure => simp [intOf]
end Go.Proofs.YtjhafhfneedmjaaDoor
