/-
  The walk over glacierlaw1.CodecGrows: for any two numbers the answer is true, and no memory that was there is changed.
-/
import Derived.Test.YtjhafhfneedmjaaDoorLawW
namespace Go.Proofs.YtjhafhfneedmjaaDoor
open Go.RowKit

set_option maxRecDepth 100000 in
set_option maxHeartbeats 1000000 in
theorem grows_any (a b : Nat) (w : World) (ht : Tabs w) (ha : a < 18446744073709551616) (hb : b < 18446744073709551616) :
    Calls Tryd.prog 9 #[.int .u64 (a : Int), .int .u64 (b : Int)] w fun e w' => e = .returned (.bool true) ∧ Below w.heap.size w w' := by
  have HT := Lib.hid ht
  have Ha := Lib.hid ha
  have Hb := Lib.hid hb
  clear ht ha hb
  go_enter Tryd.func9, Tryd.ntmps9
  go_wp2_with fail
  refine (known_any w HT.out).mono ?_
  rintro e w1 ⟨rfl, hb1⟩
  by_cases hgt : b < a
  · have hlen : (num b).length ≤ (num a).length := num_mono64 b a (by omega) Ha.out
    have hl10 := num_len10 a Ha.out
    have hl1 := num_len_pos b
    have hl11 := num_len10 b Hb.out
    go_wp2_with fail
    refine (number_any (.slice none 0 0) [] b w1.heap.size w1 Hb.out (Rd.none_ _ _) (Nat.le_refl _) (by simp)).mono ?_
    rintro e w2 ⟨v2, rfl, hown2, hb2⟩
    rw [List.nil_append] at hown2
    go_wp2_with fail
    refine (number_any (.slice none 0 0) [] a w2.heap.size w2 Ha.out (Rd.none_ _ _) (Nat.le_refl _) (by simp)).mono ?_
    rintro e w3 ⟨v3, rfl, hown3, hb3⟩
    rw [List.nil_append] at hown3
    have hx := (hown2.rd (by omega)).under hb3 (Nat.le_refl _)
    have hy := hown3.rd (by omega)
    have hbw : Below w.heap.size w w3 := hb1.trans ((hb2.mono hb1.size).trans (hb3.mono (Nat.le_trans hb1.size hb2.size)))
    clear hown2 hown3 hb2 hb3
    obtain ⟨p2, cap2, rfl, hlc2, hl472, hcm2, hat2⟩ := hx.form
    obtain ⟨p3, cap3, rfl, hlc3, hl473, hcm3, hat3⟩ := hy.form
    have HX := Lib.hid hx
    have HY := Lib.hid (hy.take (n := (num b).length) hlen)
    have HB := Lib.hid hbw
    clear hat2 hat3 hx hy hbw hb1
    by_cases he : b = a
    · have e1 : ((b : Int) == (a : Int)) = true := by simp; omega
      clear he
      go_wp2_with fail
      go_ret
      exact ⟨rfl, HB.out⟩
    · have e1 : ((b : Int) == (a : Int)) = false := by simp; omega
      have HS : Hid ((num b == (num a).take (num b).length) = false) := Lib.hid (by
        rw [beq_eq_false_iff_ne]
        exact fun h => he (num_apart b a Hb.out Ha.out h))
      clear he
      go_wp2_with fail
      refine (same_any _ _ _ _ _ _ false w3 HX.out HY.out HS.out).mono ?_
      rintro e w4 ⟨rfl, rfl⟩
      go_wp2_with fail
      go_ret
      exact ⟨rfl, HB.out⟩
  · have hlen : (num a).length ≤ (num b).length := num_mono64 a b (by omega) Hb.out
    have hl10 := num_len10 a Ha.out
    have hl1 := num_len_pos a
    have hl11 := num_len10 b Hb.out
    go_wp2_with fail
    refine (number_any (.slice none 0 0) [] a w1.heap.size w1 Ha.out (Rd.none_ _ _) (Nat.le_refl _) (by simp)).mono ?_
    rintro e w2 ⟨v2, rfl, hown2, hb2⟩
    rw [List.nil_append] at hown2
    go_wp2_with fail
    refine (number_any (.slice none 0 0) [] b w2.heap.size w2 Hb.out (Rd.none_ _ _) (Nat.le_refl _) (by simp)).mono ?_
    rintro e w3 ⟨v3, rfl, hown3, hb3⟩
    rw [List.nil_append] at hown3
    have hx := (hown2.rd (by omega)).under hb3 (Nat.le_refl _)
    have hy := hown3.rd (by omega)
    have hbw : Below w.heap.size w w3 := hb1.trans ((hb2.mono hb1.size).trans (hb3.mono (Nat.le_trans hb1.size hb2.size)))
    clear hown2 hown3 hb2 hb3
    obtain ⟨p2, cap2, rfl, hlc2, hl472, hcm2, hat2⟩ := hx.form
    obtain ⟨p3, cap3, rfl, hlc3, hl473, hcm3, hat3⟩ := hy.form
    have HX := Lib.hid hx
    have HY := Lib.hid (hy.take (n := (num a).length) hlen)
    have HB := Lib.hid hbw
    clear hat2 hat3 hx hy hbw hb1
    by_cases he : a = b
    · have e1 : ((a : Int) == (b : Int)) = true := by simp; omega
      clear he
      go_wp2_with fail
      go_ret
      exact ⟨rfl, HB.out⟩
    · have e1 : ((a : Int) == (b : Int)) = false := by simp; omega
      have HS : Hid ((num a == (num b).take (num a).length) = false) := Lib.hid (by
        rw [beq_eq_false_iff_ne]
        exact fun h => he (num_apart a b Ha.out Hb.out h))
      clear he
      go_wp2_with fail
      refine (same_any _ _ _ _ _ _ false w3 HX.out HY.out HS.out).mono ?_
      rintro e w4 ⟨rfl, rfl⟩
      go_wp2_with fail
      go_ret
      exact ⟨rfl, HB.out⟩
end Go.Proofs.YtjhafhfneedmjaaDoor
