/-
  The walks over glacierlaw2.DiskRenames, one a way (a program writes them).
-/
import Derived.Test.YtlekffhacmdnnaaKnW
import Derived.Test.YtlekffhacmdnnaaRnP
namespace Go.Proofs.Ytlekffhacmdnnaa
open Go.RowKit

set_option maxRecDepth 100000 in
set_option maxHeartbeats 2000000 in
theorem renames_p0 (W : World) (v0 v1 : Value) (a b : List UInt8) (x q : Int) (h0 : Rd W W.heap.size v0 a) (h1 : Rd W W.heap.size v1 b) (hx : x.tmod 4 = 0) (hxb : -9223372036854775808 ≤ x ∧ x ≤ 9223372036854775807) (hq : -9223372036854775808 ≤ q ∧ q ≤ 9223372036854775807) (ha : a.length ≤ 10000) (hb : b.length ≤ 10000) :
    Calls Try.prog 7 #[v0, v1, .int .i64 x, .int .i64 q] W fun e w' => e = .returned (.bool true) ∧ Below W.heap.size W w' := by
  have HX := Lib.hid hx
  have HR0 := Lib.hid h0
  have HR1 := Lib.hid h1
  have HXB := Lib.hid hxb
  obtain ⟨p0, cap0, rfl, hc0, hl0, hm0, _⟩ := h0.form
  obtain ⟨p1, cap1, rfl, hc1, hl1, hm1, _⟩ := h1.form
  clear h0 h1
  go_enter Try.func7, Try.ntmps7
  go_wp2_with fail
  refine (known_any W).mono ?_
  rintro e w0 ⟨rfl, hb0⟩
  have hz0 := hb0.size
  have HB0 := Lib.hid hb0
  clear hb0
  go_wp2_with fail
  refine (new_any w0 1048576 (by omega) (by omega)).mono ?_
  rintro e w1 ⟨rfl, hd1, hb1⟩
  have hz1 := hb1.size
  have HD1 : Hid (Dk w1 (Iv w0.heap.size w1.heap.size) w0.heap.size rd0) := Lib.hid (hd1.iv0 (n := w0.heap.size) (fun _ h => h))
  have HB1 := Lib.hid hb1
  clear hd1 hb1
  go_wp2_with fail
  refine (append_some _ (Iv w0.heap.size w1.heap.size) w0.heap.size rd0 (HD1.out.after ((Below.refl _ _).alloc (Nat.le_refl _) _)) [102] _ [a] (parts0 (RdV.of_rd (S := Iv w0.heap.size w1.heap.size) ((HR0.out.below HB0.out).below (HB1.out.mono hz0)) (Nat.le_trans hz0 hz1) (fun k hk => Iv.out0 _ _ (Nat.lt_of_lt_of_le hk hz0))) _ (Iv.new _ _)) rfl (by rw [flen_one]; show 0 + a.length ≤ 1048576; omega) (by decide)).mono ?_
  rintro e w2 ⟨rfl, hd2, hf2⟩
  obtain ⟨hb2, hz2⟩ := Below.one HB1.out hz1 hf2 (Iv.low _ _)
  rw [flat_one] at hd2
  have HD2 : Hid (Dk w2 (Iv w0.heap.size w2.heap.size) w0.heap.size (app rd0 [102] a)) := Lib.hid (hd2.iv (Iv.low _ _) (by simp; omega))
  have HB2 := Lib.hid hb2
  clear hd2 hf2 hb2
  go_wp2_with fail
  refine (sync_yes _ (Iv w0.heap.size w2.heap.size) w0.heap.size (app rd0 [102] a) (HD2.out.after ((Below.refl _ _).alloc (Nat.le_refl _) _)) _ [[102]] (name1 w2 _ [102] _ (Iv.new _ _)) (short1 (by simp)) (hasOne (rd1_look a))).mono ?_
  rintro e w3 ⟨rfl, hd3, hf3⟩
  obtain ⟨hb3, hz3⟩ := Below.one HB2.out hz2 hf3 (Iv.low _ _)
  have HD3 : Hid (Dk w3 (Iv w0.heap.size w3.heap.size) w0.heap.size (rd2 a)) := Lib.hid (hd3.iv0 (Iv.low _ _))
  have HB3 := Lib.hid hb3
  clear hd3 hf3 hb3
  have hx := HX.out
  have hxb := HXB.out
  go_wp2_with fail
  refine (crash_any _ (Iv w0.heap.size w3.heap.size) w0.heap.size (rd2 a) (HD3.out.after ((Below.refl _ _).alloc (Nat.le_refl _) _)) _ [q, q, q] (RdV.new w3 _ [.int .i64 q, .int .i64 q, .int .i64 q] 3 (0, 0) (by simp) (Iv.new _ _ _ (Nat.le_refl _))) (ints1 (n := 3) hq) (by have := rd2_len a; omega)).mono ?_
  rintro e w4 ⟨rfl, hd4, hf4⟩
  obtain ⟨hb4, hz4⟩ := Below.one HB3.out hz3 hf4 (Iv.low _ _)
  have HD4 : Hid (Dk w4 (Iv w0.heap.size w4.heap.size) w0.heap.size (crash (rd2 a) [q, q, q])) := Lib.hid (hd4.iv (Iv.low _ _) (by simp; omega))
  have HB4 := Lib.hid hb4
  clear hd4 hf4 hb4
  obtain ⟨g, hg, hgd⟩ := crash_look (rd2_look a) rfl [q, q, q]
  have HRd := Lib.hid (read_some w4 (Iv w0.heap.size w4.heap.size) w0.heap.size (crash (rd2 a) [q, q, q]) HD4.out [102] (by unfold maxLen; simp) g hg)
  have HG := Lib.hid hgd
  clear hg hgd
  go_wp2_with fail
  refine HRd.out.mono ?_
  rintro e w5 ⟨v5, rfl, ho5, hb5⟩
  rw [HG.out] at ho5
  have HB5 := Lib.hid hb5
  have hs1 := str_run (ho5.rd (by show a.length ≤ _; omega))
  have hs2 := str_run (((HR0.out.below HB0.out).below (HB4.out.mono hz0)).below (hb5.mono (Nat.le_trans hz0 hz4)))
  obtain ⟨n5, p5, cap5, rfl⟩ := ho5.shape
  clear ho5 hb5
  go_wp2_with fail
  go_ret
  exact ⟨rfl, HB0.out.trans ((HB4.out.mono hz0).trans (HB5.out.mono (Nat.le_trans hz0 hz4)))⟩

set_option maxRecDepth 100000 in
set_option maxHeartbeats 2000000 in
theorem renames_p1 (W : World) (v0 v1 : Value) (a b : List UInt8) (x q : Int) (h0 : Rd W W.heap.size v0 a) (h1 : Rd W W.heap.size v1 b) (hx : x.tmod 4 = 1) (hxb : -9223372036854775808 ≤ x ∧ x ≤ 9223372036854775807) (hq : -9223372036854775808 ≤ q ∧ q ≤ 9223372036854775807) (ha : a.length ≤ 10000) (hb : b.length ≤ 10000) :
    Calls Try.prog 7 #[v0, v1, .int .i64 x, .int .i64 q] W fun e w' => e = .returned (.bool true) ∧ Below W.heap.size W w' := by
  have HX := Lib.hid hx
  have HR0 := Lib.hid h0
  have HR1 := Lib.hid h1
  have HXB := Lib.hid hxb
  obtain ⟨p0, cap0, rfl, hc0, hl0, hm0, _⟩ := h0.form
  obtain ⟨p1, cap1, rfl, hc1, hl1, hm1, _⟩ := h1.form
  clear h0 h1
  go_enter Try.func7, Try.ntmps7
  go_wp2_with fail
  refine (known_any W).mono ?_
  rintro e w0 ⟨rfl, hb0⟩
  have hz0 := hb0.size
  have HB0 := Lib.hid hb0
  clear hb0
  go_wp2_with fail
  refine (new_any w0 1048576 (by omega) (by omega)).mono ?_
  rintro e w1 ⟨rfl, hd1, hb1⟩
  have hz1 := hb1.size
  have HD1 : Hid (Dk w1 (Iv w0.heap.size w1.heap.size) w0.heap.size rd0) := Lib.hid (hd1.iv0 (n := w0.heap.size) (fun _ h => h))
  have HB1 := Lib.hid hb1
  clear hd1 hb1
  go_wp2_with fail
  refine (append_some _ (Iv w0.heap.size w1.heap.size) w0.heap.size rd0 (HD1.out.after ((Below.refl _ _).alloc (Nat.le_refl _) _)) [102] _ [a] (parts0 (RdV.of_rd (S := Iv w0.heap.size w1.heap.size) ((HR0.out.below HB0.out).below (HB1.out.mono hz0)) (Nat.le_trans hz0 hz1) (fun k hk => Iv.out0 _ _ (Nat.lt_of_lt_of_le hk hz0))) _ (Iv.new _ _)) rfl (by rw [flen_one]; show 0 + a.length ≤ 1048576; omega) (by decide)).mono ?_
  rintro e w2 ⟨rfl, hd2, hf2⟩
  obtain ⟨hb2, hz2⟩ := Below.one HB1.out hz1 hf2 (Iv.low _ _)
  rw [flat_one] at hd2
  have HD2 : Hid (Dk w2 (Iv w0.heap.size w2.heap.size) w0.heap.size (app rd0 [102] a)) := Lib.hid (hd2.iv (Iv.low _ _) (by simp; omega))
  have HB2 := Lib.hid hb2
  clear hd2 hf2 hb2
  go_wp2_with fail
  refine (sync_yes _ (Iv w0.heap.size w2.heap.size) w0.heap.size (app rd0 [102] a) (HD2.out.after ((Below.refl _ _).alloc (Nat.le_refl _) _)) _ [[102]] (name1 w2 _ [102] _ (Iv.new _ _)) (short1 (by simp)) (hasOne (rd1_look a))).mono ?_
  rintro e w3 ⟨rfl, hd3, hf3⟩
  obtain ⟨hb3, hz3⟩ := Below.one HB2.out hz2 hf3 (Iv.low _ _)
  have HD3 : Hid (Dk w3 (Iv w0.heap.size w3.heap.size) w0.heap.size (rd2 a)) := Lib.hid (hd3.iv0 (Iv.low _ _))
  have HB3 := Lib.hid hb3
  clear hd3 hf3 hb3
  have hx := HX.out
  have hxb := HXB.out
  go_wp2_with fail
  refine (append_some _ (Iv w0.heap.size w3.heap.size) w0.heap.size (rd2 a) (HD3.out.after ((Below.refl _ _).alloc (Nat.le_refl _) _)) [102, 46, 116, 109, 112] _ [b] (parts0 (RdV.of_rd (S := Iv w0.heap.size w3.heap.size) ((HR1.out.below HB0.out).below (HB3.out.mono hz0)) (Nat.le_trans hz0 hz3) (fun k hk => Iv.out0 _ _ (Nat.lt_of_lt_of_le hk hz0))) _ (Iv.new _ _)) rfl (by rw [flen_one]; rw [rd2_used]; show a.length + b.length ≤ 1048576; omega) (by have := rd2_len a; omega)).mono ?_
  rintro e w4 ⟨rfl, hd4, hf4⟩
  obtain ⟨hb4, hz4⟩ := Below.one HB3.out hz3 hf4 (Iv.low _ _)
  rw [flat_one] at hd4
  have HD4 : Hid (Dk w4 (Iv w0.heap.size w4.heap.size) w0.heap.size (rd3 a b)) := Lib.hid (hd4.iv (Iv.low _ _) (by simp; omega))
  have HB4 := Lib.hid hb4
  clear hd4 hf4 hb4
  go_wp2_with fail
  refine (crash_any _ (Iv w0.heap.size w4.heap.size) w0.heap.size (rd3 a b) (HD4.out.after ((Below.refl _ _).alloc (Nat.le_refl _) _)) _ [q, q, q] (RdV.new w4 _ [.int .i64 q, .int .i64 q, .int .i64 q] 3 (0, 0) (by simp) (Iv.new _ _ _ (Nat.le_refl _))) (ints1 (n := 3) hq) (by have := rd3_len a b; omega)).mono ?_
  rintro e w5 ⟨rfl, hd5, hf5⟩
  obtain ⟨hb5, hz5⟩ := Below.one HB4.out hz4 hf5 (Iv.low _ _)
  have HD5 : Hid (Dk w5 (Iv w0.heap.size w5.heap.size) w0.heap.size (crash (rd3 a b) [q, q, q])) := Lib.hid (hd5.iv (Iv.low _ _) (by simp; omega))
  have HB5 := Lib.hid hb5
  clear hd5 hf5 hb5
  obtain ⟨g, hg, hgd⟩ := crash_look (rd3_look a b) rfl [q, q, q]
  have HRd := Lib.hid (read_some w5 (Iv w0.heap.size w5.heap.size) w0.heap.size (crash (rd3 a b) [q, q, q]) HD5.out [102] (by unfold maxLen; simp) g hg)
  have HG := Lib.hid hgd
  clear hg hgd
  go_wp2_with fail
  refine HRd.out.mono ?_
  rintro e w6 ⟨v6, rfl, ho6, hb6⟩
  rw [HG.out] at ho6
  have HB6 := Lib.hid hb6
  have hs1 := str_run (ho6.rd (by show a.length ≤ _; omega))
  have hs2 := str_run (((HR0.out.below HB0.out).below (HB5.out.mono hz0)).below (hb6.mono (Nat.le_trans hz0 hz5)))
  obtain ⟨n6, p6, cap6, rfl⟩ := ho6.shape
  clear ho6 hb6
  go_wp2_with fail
  go_ret
  exact ⟨rfl, HB0.out.trans ((HB5.out.mono hz0).trans (HB6.out.mono (Nat.le_trans hz0 hz5)))⟩

set_option maxRecDepth 100000 in
set_option maxHeartbeats 2000000 in
theorem renames_m1 (W : World) (v0 v1 : Value) (a b : List UInt8) (x q : Int) (h0 : Rd W W.heap.size v0 a) (h1 : Rd W W.heap.size v1 b) (hx : x.tmod 4 = -1) (hxb : -9223372036854775808 ≤ x ∧ x ≤ 9223372036854775807) (hq : -9223372036854775808 ≤ q ∧ q ≤ 9223372036854775807) (ha : a.length ≤ 10000) (hb : b.length ≤ 10000) :
    Calls Try.prog 7 #[v0, v1, .int .i64 x, .int .i64 q] W fun e w' => e = .returned (.bool true) ∧ Below W.heap.size W w' := by
  have HX := Lib.hid hx
  have HR0 := Lib.hid h0
  have HR1 := Lib.hid h1
  have HXB := Lib.hid hxb
  obtain ⟨p0, cap0, rfl, hc0, hl0, hm0, _⟩ := h0.form
  obtain ⟨p1, cap1, rfl, hc1, hl1, hm1, _⟩ := h1.form
  clear h0 h1
  go_enter Try.func7, Try.ntmps7
  go_wp2_with fail
  refine (known_any W).mono ?_
  rintro e w0 ⟨rfl, hb0⟩
  have hz0 := hb0.size
  have HB0 := Lib.hid hb0
  clear hb0
  go_wp2_with fail
  refine (new_any w0 1048576 (by omega) (by omega)).mono ?_
  rintro e w1 ⟨rfl, hd1, hb1⟩
  have hz1 := hb1.size
  have HD1 : Hid (Dk w1 (Iv w0.heap.size w1.heap.size) w0.heap.size rd0) := Lib.hid (hd1.iv0 (n := w0.heap.size) (fun _ h => h))
  have HB1 := Lib.hid hb1
  clear hd1 hb1
  go_wp2_with fail
  refine (append_some _ (Iv w0.heap.size w1.heap.size) w0.heap.size rd0 (HD1.out.after ((Below.refl _ _).alloc (Nat.le_refl _) _)) [102] _ [a] (parts0 (RdV.of_rd (S := Iv w0.heap.size w1.heap.size) ((HR0.out.below HB0.out).below (HB1.out.mono hz0)) (Nat.le_trans hz0 hz1) (fun k hk => Iv.out0 _ _ (Nat.lt_of_lt_of_le hk hz0))) _ (Iv.new _ _)) rfl (by rw [flen_one]; show 0 + a.length ≤ 1048576; omega) (by decide)).mono ?_
  rintro e w2 ⟨rfl, hd2, hf2⟩
  obtain ⟨hb2, hz2⟩ := Below.one HB1.out hz1 hf2 (Iv.low _ _)
  rw [flat_one] at hd2
  have HD2 : Hid (Dk w2 (Iv w0.heap.size w2.heap.size) w0.heap.size (app rd0 [102] a)) := Lib.hid (hd2.iv (Iv.low _ _) (by simp; omega))
  have HB2 := Lib.hid hb2
  clear hd2 hf2 hb2
  go_wp2_with fail
  refine (sync_yes _ (Iv w0.heap.size w2.heap.size) w0.heap.size (app rd0 [102] a) (HD2.out.after ((Below.refl _ _).alloc (Nat.le_refl _) _)) _ [[102]] (name1 w2 _ [102] _ (Iv.new _ _)) (short1 (by simp)) (hasOne (rd1_look a))).mono ?_
  rintro e w3 ⟨rfl, hd3, hf3⟩
  obtain ⟨hb3, hz3⟩ := Below.one HB2.out hz2 hf3 (Iv.low _ _)
  have HD3 : Hid (Dk w3 (Iv w0.heap.size w3.heap.size) w0.heap.size (rd2 a)) := Lib.hid (hd3.iv0 (Iv.low _ _))
  have HB3 := Lib.hid hb3
  clear hd3 hf3 hb3
  have hx := HX.out
  have hxb := HXB.out
  go_wp2_with fail
  refine (append_some _ (Iv w0.heap.size w3.heap.size) w0.heap.size (rd2 a) (HD3.out.after ((Below.refl _ _).alloc (Nat.le_refl _) _)) [102, 46, 116, 109, 112] _ [b] (parts0 (RdV.of_rd (S := Iv w0.heap.size w3.heap.size) ((HR1.out.below HB0.out).below (HB3.out.mono hz0)) (Nat.le_trans hz0 hz3) (fun k hk => Iv.out0 _ _ (Nat.lt_of_lt_of_le hk hz0))) _ (Iv.new _ _)) rfl (by rw [flen_one]; rw [rd2_used]; show a.length + b.length ≤ 1048576; omega) (by have := rd2_len a; omega)).mono ?_
  rintro e w4 ⟨rfl, hd4, hf4⟩
  obtain ⟨hb4, hz4⟩ := Below.one HB3.out hz3 hf4 (Iv.low _ _)
  rw [flat_one] at hd4
  have HD4 : Hid (Dk w4 (Iv w0.heap.size w4.heap.size) w0.heap.size (rd3 a b)) := Lib.hid (hd4.iv (Iv.low _ _) (by simp; omega))
  have HB4 := Lib.hid hb4
  clear hd4 hf4 hb4
  go_wp2_with fail
  refine (crash_any _ (Iv w0.heap.size w4.heap.size) w0.heap.size (rd3 a b) (HD4.out.after ((Below.refl _ _).alloc (Nat.le_refl _) _)) _ [q, q, q] (RdV.new w4 _ [.int .i64 q, .int .i64 q, .int .i64 q] 3 (0, 0) (by simp) (Iv.new _ _ _ (Nat.le_refl _))) (ints1 (n := 3) hq) (by have := rd3_len a b; omega)).mono ?_
  rintro e w5 ⟨rfl, hd5, hf5⟩
  obtain ⟨hb5, hz5⟩ := Below.one HB4.out hz4 hf5 (Iv.low _ _)
  have HD5 : Hid (Dk w5 (Iv w0.heap.size w5.heap.size) w0.heap.size (crash (rd3 a b) [q, q, q])) := Lib.hid (hd5.iv (Iv.low _ _) (by simp; omega))
  have HB5 := Lib.hid hb5
  clear hd5 hf5 hb5
  obtain ⟨g, hg, hgd⟩ := crash_look (rd3_look a b) rfl [q, q, q]
  have HRd := Lib.hid (read_some w5 (Iv w0.heap.size w5.heap.size) w0.heap.size (crash (rd3 a b) [q, q, q]) HD5.out [102] (by unfold maxLen; simp) g hg)
  have HG := Lib.hid hgd
  clear hg hgd
  go_wp2_with fail
  refine HRd.out.mono ?_
  rintro e w6 ⟨v6, rfl, ho6, hb6⟩
  rw [HG.out] at ho6
  have HB6 := Lib.hid hb6
  have hs1 := str_run (ho6.rd (by show a.length ≤ _; omega))
  have hs2 := str_run (((HR0.out.below HB0.out).below (HB5.out.mono hz0)).below (hb6.mono (Nat.le_trans hz0 hz5)))
  obtain ⟨n6, p6, cap6, rfl⟩ := ho6.shape
  clear ho6 hb6
  go_wp2_with fail
  go_ret
  exact ⟨rfl, HB0.out.trans ((HB5.out.mono hz0).trans (HB6.out.mono (Nat.le_trans hz0 hz5)))⟩

set_option maxRecDepth 100000 in
set_option maxHeartbeats 2000000 in
theorem renames_p2 (W : World) (v0 v1 : Value) (a b : List UInt8) (x q : Int) (h0 : Rd W W.heap.size v0 a) (h1 : Rd W W.heap.size v1 b) (hx : x.tmod 4 = 2) (hxb : -9223372036854775808 ≤ x ∧ x ≤ 9223372036854775807) (hq : -9223372036854775808 ≤ q ∧ q ≤ 9223372036854775807) (ha : a.length ≤ 10000) (hb : b.length ≤ 10000) :
    Calls Try.prog 7 #[v0, v1, .int .i64 x, .int .i64 q] W fun e w' => e = .returned (.bool true) ∧ Below W.heap.size W w' := by
  have HX := Lib.hid hx
  have HR0 := Lib.hid h0
  have HR1 := Lib.hid h1
  have HXB := Lib.hid hxb
  obtain ⟨p0, cap0, rfl, hc0, hl0, hm0, _⟩ := h0.form
  obtain ⟨p1, cap1, rfl, hc1, hl1, hm1, _⟩ := h1.form
  clear h0 h1
  go_enter Try.func7, Try.ntmps7
  go_wp2_with fail
  refine (known_any W).mono ?_
  rintro e w0 ⟨rfl, hb0⟩
  have hz0 := hb0.size
  have HB0 := Lib.hid hb0
  clear hb0
  go_wp2_with fail
  refine (new_any w0 1048576 (by omega) (by omega)).mono ?_
  rintro e w1 ⟨rfl, hd1, hb1⟩
  have hz1 := hb1.size
  have HD1 : Hid (Dk w1 (Iv w0.heap.size w1.heap.size) w0.heap.size rd0) := Lib.hid (hd1.iv0 (n := w0.heap.size) (fun _ h => h))
  have HB1 := Lib.hid hb1
  clear hd1 hb1
  go_wp2_with fail
  refine (append_some _ (Iv w0.heap.size w1.heap.size) w0.heap.size rd0 (HD1.out.after ((Below.refl _ _).alloc (Nat.le_refl _) _)) [102] _ [a] (parts0 (RdV.of_rd (S := Iv w0.heap.size w1.heap.size) ((HR0.out.below HB0.out).below (HB1.out.mono hz0)) (Nat.le_trans hz0 hz1) (fun k hk => Iv.out0 _ _ (Nat.lt_of_lt_of_le hk hz0))) _ (Iv.new _ _)) rfl (by rw [flen_one]; show 0 + a.length ≤ 1048576; omega) (by decide)).mono ?_
  rintro e w2 ⟨rfl, hd2, hf2⟩
  obtain ⟨hb2, hz2⟩ := Below.one HB1.out hz1 hf2 (Iv.low _ _)
  rw [flat_one] at hd2
  have HD2 : Hid (Dk w2 (Iv w0.heap.size w2.heap.size) w0.heap.size (app rd0 [102] a)) := Lib.hid (hd2.iv (Iv.low _ _) (by simp; omega))
  have HB2 := Lib.hid hb2
  clear hd2 hf2 hb2
  go_wp2_with fail
  refine (sync_yes _ (Iv w0.heap.size w2.heap.size) w0.heap.size (app rd0 [102] a) (HD2.out.after ((Below.refl _ _).alloc (Nat.le_refl _) _)) _ [[102]] (name1 w2 _ [102] _ (Iv.new _ _)) (short1 (by simp)) (hasOne (rd1_look a))).mono ?_
  rintro e w3 ⟨rfl, hd3, hf3⟩
  obtain ⟨hb3, hz3⟩ := Below.one HB2.out hz2 hf3 (Iv.low _ _)
  have HD3 : Hid (Dk w3 (Iv w0.heap.size w3.heap.size) w0.heap.size (rd2 a)) := Lib.hid (hd3.iv0 (Iv.low _ _))
  have HB3 := Lib.hid hb3
  clear hd3 hf3 hb3
  have hx := HX.out
  have hxb := HXB.out
  go_wp2_with fail
  refine (append_some _ (Iv w0.heap.size w3.heap.size) w0.heap.size (rd2 a) (HD3.out.after ((Below.refl _ _).alloc (Nat.le_refl _) _)) [102, 46, 116, 109, 112] _ [b] (parts0 (RdV.of_rd (S := Iv w0.heap.size w3.heap.size) ((HR1.out.below HB0.out).below (HB3.out.mono hz0)) (Nat.le_trans hz0 hz3) (fun k hk => Iv.out0 _ _ (Nat.lt_of_lt_of_le hk hz0))) _ (Iv.new _ _)) rfl (by rw [flen_one]; rw [rd2_used]; show a.length + b.length ≤ 1048576; omega) (by have := rd2_len a; omega)).mono ?_
  rintro e w4 ⟨rfl, hd4, hf4⟩
  obtain ⟨hb4, hz4⟩ := Below.one HB3.out hz3 hf4 (Iv.low _ _)
  rw [flat_one] at hd4
  have HD4 : Hid (Dk w4 (Iv w0.heap.size w4.heap.size) w0.heap.size (rd3 a b)) := Lib.hid (hd4.iv (Iv.low _ _) (by simp; omega))
  have HB4 := Lib.hid hb4
  clear hd4 hf4 hb4
  go_wp2_with fail
  refine (sync_yes _ (Iv w0.heap.size w4.heap.size) w0.heap.size (rd3 a b) (HD4.out.after ((Below.refl _ _).alloc (Nat.le_refl _) _)) _ [[102, 46, 116, 109, 112]] (name1 w4 _ [102, 46, 116, 109, 112] _ (Iv.new _ _)) (short1 (by simp)) (hasOne (rd3_tmp a b))).mono ?_
  rintro e w5 ⟨rfl, hd5, hf5⟩
  obtain ⟨hb5, hz5⟩ := Below.one HB4.out hz4 hf5 (Iv.low _ _)
  have HD5 : Hid (Dk w5 (Iv w0.heap.size w5.heap.size) w0.heap.size (rd4 a b)) := Lib.hid (hd5.iv0 (Iv.low _ _))
  have HB5 := Lib.hid hb5
  clear hd5 hf5 hb5
  go_wp2_with fail
  refine (crash_any _ (Iv w0.heap.size w5.heap.size) w0.heap.size (rd4 a b) (HD5.out.after ((Below.refl _ _).alloc (Nat.le_refl _) _)) _ [q, q, q] (RdV.new w5 _ [.int .i64 q, .int .i64 q, .int .i64 q] 3 (0, 0) (by simp) (Iv.new _ _ _ (Nat.le_refl _))) (ints1 (n := 3) hq) (by have := rd4_len a b; omega)).mono ?_
  rintro e w6 ⟨rfl, hd6, hf6⟩
  obtain ⟨hb6, hz6⟩ := Below.one HB5.out hz5 hf6 (Iv.low _ _)
  have HD6 : Hid (Dk w6 (Iv w0.heap.size w6.heap.size) w0.heap.size (crash (rd4 a b) [q, q, q])) := Lib.hid (hd6.iv (Iv.low _ _) (by simp; omega))
  have HB6 := Lib.hid hb6
  clear hd6 hf6 hb6
  obtain ⟨g, hg, hgd⟩ := crash_look (rd4_look a b) rfl [q, q, q]
  have HRd := Lib.hid (read_some w6 (Iv w0.heap.size w6.heap.size) w0.heap.size (crash (rd4 a b) [q, q, q]) HD6.out [102] (by unfold maxLen; simp) g hg)
  have HG := Lib.hid hgd
  clear hg hgd
  go_wp2_with fail
  refine HRd.out.mono ?_
  rintro e w7 ⟨v7, rfl, ho7, hb7⟩
  rw [HG.out] at ho7
  have HB7 := Lib.hid hb7
  have hs1 := str_run (ho7.rd (by show a.length ≤ _; omega))
  have hs2 := str_run (((HR0.out.below HB0.out).below (HB6.out.mono hz0)).below (hb7.mono (Nat.le_trans hz0 hz6)))
  obtain ⟨n7, p7, cap7, rfl⟩ := ho7.shape
  clear ho7 hb7
  go_wp2_with fail
  go_ret
  exact ⟨rfl, HB0.out.trans ((HB6.out.mono hz0).trans (HB7.out.mono (Nat.le_trans hz0 hz6)))⟩

set_option maxRecDepth 100000 in
set_option maxHeartbeats 2000000 in
theorem renames_m2 (W : World) (v0 v1 : Value) (a b : List UInt8) (x q : Int) (h0 : Rd W W.heap.size v0 a) (h1 : Rd W W.heap.size v1 b) (hx : x.tmod 4 = -2) (hxb : -9223372036854775808 ≤ x ∧ x ≤ 9223372036854775807) (hq : -9223372036854775808 ≤ q ∧ q ≤ 9223372036854775807) (ha : a.length ≤ 10000) (hb : b.length ≤ 10000) :
    Calls Try.prog 7 #[v0, v1, .int .i64 x, .int .i64 q] W fun e w' => e = .returned (.bool true) ∧ Below W.heap.size W w' := by
  have HX := Lib.hid hx
  have HR0 := Lib.hid h0
  have HR1 := Lib.hid h1
  have HXB := Lib.hid hxb
  obtain ⟨p0, cap0, rfl, hc0, hl0, hm0, _⟩ := h0.form
  obtain ⟨p1, cap1, rfl, hc1, hl1, hm1, _⟩ := h1.form
  clear h0 h1
  go_enter Try.func7, Try.ntmps7
  go_wp2_with fail
  refine (known_any W).mono ?_
  rintro e w0 ⟨rfl, hb0⟩
  have hz0 := hb0.size
  have HB0 := Lib.hid hb0
  clear hb0
  go_wp2_with fail
  refine (new_any w0 1048576 (by omega) (by omega)).mono ?_
  rintro e w1 ⟨rfl, hd1, hb1⟩
  have hz1 := hb1.size
  have HD1 : Hid (Dk w1 (Iv w0.heap.size w1.heap.size) w0.heap.size rd0) := Lib.hid (hd1.iv0 (n := w0.heap.size) (fun _ h => h))
  have HB1 := Lib.hid hb1
  clear hd1 hb1
  go_wp2_with fail
  refine (append_some _ (Iv w0.heap.size w1.heap.size) w0.heap.size rd0 (HD1.out.after ((Below.refl _ _).alloc (Nat.le_refl _) _)) [102] _ [a] (parts0 (RdV.of_rd (S := Iv w0.heap.size w1.heap.size) ((HR0.out.below HB0.out).below (HB1.out.mono hz0)) (Nat.le_trans hz0 hz1) (fun k hk => Iv.out0 _ _ (Nat.lt_of_lt_of_le hk hz0))) _ (Iv.new _ _)) rfl (by rw [flen_one]; show 0 + a.length ≤ 1048576; omega) (by decide)).mono ?_
  rintro e w2 ⟨rfl, hd2, hf2⟩
  obtain ⟨hb2, hz2⟩ := Below.one HB1.out hz1 hf2 (Iv.low _ _)
  rw [flat_one] at hd2
  have HD2 : Hid (Dk w2 (Iv w0.heap.size w2.heap.size) w0.heap.size (app rd0 [102] a)) := Lib.hid (hd2.iv (Iv.low _ _) (by simp; omega))
  have HB2 := Lib.hid hb2
  clear hd2 hf2 hb2
  go_wp2_with fail
  refine (sync_yes _ (Iv w0.heap.size w2.heap.size) w0.heap.size (app rd0 [102] a) (HD2.out.after ((Below.refl _ _).alloc (Nat.le_refl _) _)) _ [[102]] (name1 w2 _ [102] _ (Iv.new _ _)) (short1 (by simp)) (hasOne (rd1_look a))).mono ?_
  rintro e w3 ⟨rfl, hd3, hf3⟩
  obtain ⟨hb3, hz3⟩ := Below.one HB2.out hz2 hf3 (Iv.low _ _)
  have HD3 : Hid (Dk w3 (Iv w0.heap.size w3.heap.size) w0.heap.size (rd2 a)) := Lib.hid (hd3.iv0 (Iv.low _ _))
  have HB3 := Lib.hid hb3
  clear hd3 hf3 hb3
  have hx := HX.out
  have hxb := HXB.out
  go_wp2_with fail
  refine (append_some _ (Iv w0.heap.size w3.heap.size) w0.heap.size (rd2 a) (HD3.out.after ((Below.refl _ _).alloc (Nat.le_refl _) _)) [102, 46, 116, 109, 112] _ [b] (parts0 (RdV.of_rd (S := Iv w0.heap.size w3.heap.size) ((HR1.out.below HB0.out).below (HB3.out.mono hz0)) (Nat.le_trans hz0 hz3) (fun k hk => Iv.out0 _ _ (Nat.lt_of_lt_of_le hk hz0))) _ (Iv.new _ _)) rfl (by rw [flen_one]; rw [rd2_used]; show a.length + b.length ≤ 1048576; omega) (by have := rd2_len a; omega)).mono ?_
  rintro e w4 ⟨rfl, hd4, hf4⟩
  obtain ⟨hb4, hz4⟩ := Below.one HB3.out hz3 hf4 (Iv.low _ _)
  rw [flat_one] at hd4
  have HD4 : Hid (Dk w4 (Iv w0.heap.size w4.heap.size) w0.heap.size (rd3 a b)) := Lib.hid (hd4.iv (Iv.low _ _) (by simp; omega))
  have HB4 := Lib.hid hb4
  clear hd4 hf4 hb4
  go_wp2_with fail
  refine (sync_yes _ (Iv w0.heap.size w4.heap.size) w0.heap.size (rd3 a b) (HD4.out.after ((Below.refl _ _).alloc (Nat.le_refl _) _)) _ [[102, 46, 116, 109, 112]] (name1 w4 _ [102, 46, 116, 109, 112] _ (Iv.new _ _)) (short1 (by simp)) (hasOne (rd3_tmp a b))).mono ?_
  rintro e w5 ⟨rfl, hd5, hf5⟩
  obtain ⟨hb5, hz5⟩ := Below.one HB4.out hz4 hf5 (Iv.low _ _)
  have HD5 : Hid (Dk w5 (Iv w0.heap.size w5.heap.size) w0.heap.size (rd4 a b)) := Lib.hid (hd5.iv0 (Iv.low _ _))
  have HB5 := Lib.hid hb5
  clear hd5 hf5 hb5
  go_wp2_with fail
  refine (crash_any _ (Iv w0.heap.size w5.heap.size) w0.heap.size (rd4 a b) (HD5.out.after ((Below.refl _ _).alloc (Nat.le_refl _) _)) _ [q, q, q] (RdV.new w5 _ [.int .i64 q, .int .i64 q, .int .i64 q] 3 (0, 0) (by simp) (Iv.new _ _ _ (Nat.le_refl _))) (ints1 (n := 3) hq) (by have := rd4_len a b; omega)).mono ?_
  rintro e w6 ⟨rfl, hd6, hf6⟩
  obtain ⟨hb6, hz6⟩ := Below.one HB5.out hz5 hf6 (Iv.low _ _)
  have HD6 : Hid (Dk w6 (Iv w0.heap.size w6.heap.size) w0.heap.size (crash (rd4 a b) [q, q, q])) := Lib.hid (hd6.iv (Iv.low _ _) (by simp; omega))
  have HB6 := Lib.hid hb6
  clear hd6 hf6 hb6
  obtain ⟨g, hg, hgd⟩ := crash_look (rd4_look a b) rfl [q, q, q]
  have HRd := Lib.hid (read_some w6 (Iv w0.heap.size w6.heap.size) w0.heap.size (crash (rd4 a b) [q, q, q]) HD6.out [102] (by unfold maxLen; simp) g hg)
  have HG := Lib.hid hgd
  clear hg hgd
  go_wp2_with fail
  refine HRd.out.mono ?_
  rintro e w7 ⟨v7, rfl, ho7, hb7⟩
  rw [HG.out] at ho7
  have HB7 := Lib.hid hb7
  have hs1 := str_run (ho7.rd (by show a.length ≤ _; omega))
  have hs2 := str_run (((HR0.out.below HB0.out).below (HB6.out.mono hz0)).below (hb7.mono (Nat.le_trans hz0 hz6)))
  obtain ⟨n7, p7, cap7, rfl⟩ := ho7.shape
  clear ho7 hb7
  go_wp2_with fail
  go_ret
  exact ⟨rfl, HB0.out.trans ((HB6.out.mono hz0).trans (HB7.out.mono (Nat.le_trans hz0 hz6)))⟩

set_option maxRecDepth 100000 in
set_option maxHeartbeats 2000000 in
theorem renames_p3 (W : World) (v0 v1 : Value) (a b : List UInt8) (x q : Int) (h0 : Rd W W.heap.size v0 a) (h1 : Rd W W.heap.size v1 b) (hx : x.tmod 4 = 3) (hxb : -9223372036854775808 ≤ x ∧ x ≤ 9223372036854775807) (hq : -9223372036854775808 ≤ q ∧ q ≤ 9223372036854775807) (ha : a.length ≤ 10000) (hb : b.length ≤ 10000) :
    Calls Try.prog 7 #[v0, v1, .int .i64 x, .int .i64 q] W fun e w' => e = .returned (.bool true) ∧ Below W.heap.size W w' := by
  have HX := Lib.hid hx
  have HR0 := Lib.hid h0
  have HR1 := Lib.hid h1
  have HXB := Lib.hid hxb
  obtain ⟨p0, cap0, rfl, hc0, hl0, hm0, _⟩ := h0.form
  obtain ⟨p1, cap1, rfl, hc1, hl1, hm1, _⟩ := h1.form
  clear h0 h1
  go_enter Try.func7, Try.ntmps7
  go_wp2_with fail
  refine (known_any W).mono ?_
  rintro e w0 ⟨rfl, hb0⟩
  have hz0 := hb0.size
  have HB0 := Lib.hid hb0
  clear hb0
  go_wp2_with fail
  refine (new_any w0 1048576 (by omega) (by omega)).mono ?_
  rintro e w1 ⟨rfl, hd1, hb1⟩
  have hz1 := hb1.size
  have HD1 : Hid (Dk w1 (Iv w0.heap.size w1.heap.size) w0.heap.size rd0) := Lib.hid (hd1.iv0 (n := w0.heap.size) (fun _ h => h))
  have HB1 := Lib.hid hb1
  clear hd1 hb1
  go_wp2_with fail
  refine (append_some _ (Iv w0.heap.size w1.heap.size) w0.heap.size rd0 (HD1.out.after ((Below.refl _ _).alloc (Nat.le_refl _) _)) [102] _ [a] (parts0 (RdV.of_rd (S := Iv w0.heap.size w1.heap.size) ((HR0.out.below HB0.out).below (HB1.out.mono hz0)) (Nat.le_trans hz0 hz1) (fun k hk => Iv.out0 _ _ (Nat.lt_of_lt_of_le hk hz0))) _ (Iv.new _ _)) rfl (by rw [flen_one]; show 0 + a.length ≤ 1048576; omega) (by decide)).mono ?_
  rintro e w2 ⟨rfl, hd2, hf2⟩
  obtain ⟨hb2, hz2⟩ := Below.one HB1.out hz1 hf2 (Iv.low _ _)
  rw [flat_one] at hd2
  have HD2 : Hid (Dk w2 (Iv w0.heap.size w2.heap.size) w0.heap.size (app rd0 [102] a)) := Lib.hid (hd2.iv (Iv.low _ _) (by simp; omega))
  have HB2 := Lib.hid hb2
  clear hd2 hf2 hb2
  go_wp2_with fail
  refine (sync_yes _ (Iv w0.heap.size w2.heap.size) w0.heap.size (app rd0 [102] a) (HD2.out.after ((Below.refl _ _).alloc (Nat.le_refl _) _)) _ [[102]] (name1 w2 _ [102] _ (Iv.new _ _)) (short1 (by simp)) (hasOne (rd1_look a))).mono ?_
  rintro e w3 ⟨rfl, hd3, hf3⟩
  obtain ⟨hb3, hz3⟩ := Below.one HB2.out hz2 hf3 (Iv.low _ _)
  have HD3 : Hid (Dk w3 (Iv w0.heap.size w3.heap.size) w0.heap.size (rd2 a)) := Lib.hid (hd3.iv0 (Iv.low _ _))
  have HB3 := Lib.hid hb3
  clear hd3 hf3 hb3
  have hx := HX.out
  have hxb := HXB.out
  go_wp2_with fail
  refine (append_some _ (Iv w0.heap.size w3.heap.size) w0.heap.size (rd2 a) (HD3.out.after ((Below.refl _ _).alloc (Nat.le_refl _) _)) [102, 46, 116, 109, 112] _ [b] (parts0 (RdV.of_rd (S := Iv w0.heap.size w3.heap.size) ((HR1.out.below HB0.out).below (HB3.out.mono hz0)) (Nat.le_trans hz0 hz3) (fun k hk => Iv.out0 _ _ (Nat.lt_of_lt_of_le hk hz0))) _ (Iv.new _ _)) rfl (by rw [flen_one]; rw [rd2_used]; show a.length + b.length ≤ 1048576; omega) (by have := rd2_len a; omega)).mono ?_
  rintro e w4 ⟨rfl, hd4, hf4⟩
  obtain ⟨hb4, hz4⟩ := Below.one HB3.out hz3 hf4 (Iv.low _ _)
  rw [flat_one] at hd4
  have HD4 : Hid (Dk w4 (Iv w0.heap.size w4.heap.size) w0.heap.size (rd3 a b)) := Lib.hid (hd4.iv (Iv.low _ _) (by simp; omega))
  have HB4 := Lib.hid hb4
  clear hd4 hf4 hb4
  go_wp2_with fail
  refine (sync_yes _ (Iv w0.heap.size w4.heap.size) w0.heap.size (rd3 a b) (HD4.out.after ((Below.refl _ _).alloc (Nat.le_refl _) _)) _ [[102, 46, 116, 109, 112]] (name1 w4 _ [102, 46, 116, 109, 112] _ (Iv.new _ _)) (short1 (by simp)) (hasOne (rd3_tmp a b))).mono ?_
  rintro e w5 ⟨rfl, hd5, hf5⟩
  obtain ⟨hb5, hz5⟩ := Below.one HB4.out hz4 hf5 (Iv.low _ _)
  have HD5 : Hid (Dk w5 (Iv w0.heap.size w5.heap.size) w0.heap.size (rd4 a b)) := Lib.hid (hd5.iv0 (Iv.low _ _))
  have HB5 := Lib.hid hb5
  clear hd5 hf5 hb5
  go_wp2_with fail
  refine (rename_some w5 (Iv w0.heap.size w5.heap.size) w0.heap.size (rd4 a b) HD5.out [102, 46, 116, 109, 112] [102] (by unfold maxLen; simp) (by have := rd4_len a b; omega) _ (rd4_tmp a b) (by decide) (by decide)).mono ?_
  rintro e w6 ⟨rfl, hd6, hf6⟩
  have hb6 := HB5.out.trans (hf6.iv hz5 (Iv.low _ _))
  have hz6 := Nat.le_trans hz5 hf6.size
  have HD6 : Hid (Dk w6 (Iv w0.heap.size w6.heap.size) w0.heap.size (rd5 a b)) := Lib.hid (hd6.iv0 (Iv.low _ _))
  have HB6 := Lib.hid hb6
  clear hd6 hf6 hb6
  go_wp2_with fail
  refine (crash_any _ (Iv w0.heap.size w6.heap.size) w0.heap.size (rd5 a b) (HD6.out.after ((Below.refl _ _).alloc (Nat.le_refl _) _)) _ [q, q, q] (RdV.new w6 _ [.int .i64 q, .int .i64 q, .int .i64 q] 3 (0, 0) (by simp) (Iv.new _ _ _ (Nat.le_refl _))) (ints1 (n := 3) hq) (by have := rd5_len a b; omega)).mono ?_
  rintro e w7 ⟨rfl, hd7, hf7⟩
  obtain ⟨hb7, hz7⟩ := Below.one HB6.out hz6 hf7 (Iv.low _ _)
  have HD7 : Hid (Dk w7 (Iv w0.heap.size w7.heap.size) w0.heap.size (crash (rd5 a b) [q, q, q])) := Lib.hid (hd7.iv (Iv.low _ _) (by simp; omega))
  have HB7 := Lib.hid hb7
  clear hd7 hf7 hb7
  obtain ⟨g, hg, hgd⟩ := crash_look (rd5_look a b) rfl [q, q, q]
  have HRd := Lib.hid (read_some w7 (Iv w0.heap.size w7.heap.size) w0.heap.size (crash (rd5 a b) [q, q, q]) HD7.out [102] (by unfold maxLen; simp) g hg)
  have HG := Lib.hid hgd
  clear hg hgd
  go_wp2_with fail
  refine HRd.out.mono ?_
  rintro e w8 ⟨v8, rfl, ho8, hb8⟩
  rw [HG.out] at ho8
  have HB8 := Lib.hid hb8
  have hs1 := str_run (ho8.rd (by show b.length ≤ _; omega))
  have hs2 := str_run (((HR1.out.below HB0.out).below (HB7.out.mono hz0)).below (hb8.mono (Nat.le_trans hz0 hz7)))
  obtain ⟨n8, p8, cap8, rfl⟩ := ho8.shape
  clear ho8 hb8
  go_wp2_with fail
  go_ret
  exact ⟨rfl, HB0.out.trans ((HB7.out.mono hz0).trans (HB8.out.mono (Nat.le_trans hz0 hz7)))⟩

set_option maxRecDepth 100000 in
set_option maxHeartbeats 2000000 in
theorem renames_m3 (W : World) (v0 v1 : Value) (a b : List UInt8) (x q : Int) (h0 : Rd W W.heap.size v0 a) (h1 : Rd W W.heap.size v1 b) (hx : x.tmod 4 = -3) (hxb : -9223372036854775808 ≤ x ∧ x ≤ 9223372036854775807) (hq : -9223372036854775808 ≤ q ∧ q ≤ 9223372036854775807) (ha : a.length ≤ 10000) (hb : b.length ≤ 10000) :
    Calls Try.prog 7 #[v0, v1, .int .i64 x, .int .i64 q] W fun e w' => e = .returned (.bool true) ∧ Below W.heap.size W w' := by
  have HX := Lib.hid hx
  have HR0 := Lib.hid h0
  have HR1 := Lib.hid h1
  have HXB := Lib.hid hxb
  obtain ⟨p0, cap0, rfl, hc0, hl0, hm0, _⟩ := h0.form
  obtain ⟨p1, cap1, rfl, hc1, hl1, hm1, _⟩ := h1.form
  clear h0 h1
  go_enter Try.func7, Try.ntmps7
  go_wp2_with fail
  refine (known_any W).mono ?_
  rintro e w0 ⟨rfl, hb0⟩
  have hz0 := hb0.size
  have HB0 := Lib.hid hb0
  clear hb0
  go_wp2_with fail
  refine (new_any w0 1048576 (by omega) (by omega)).mono ?_
  rintro e w1 ⟨rfl, hd1, hb1⟩
  have hz1 := hb1.size
  have HD1 : Hid (Dk w1 (Iv w0.heap.size w1.heap.size) w0.heap.size rd0) := Lib.hid (hd1.iv0 (n := w0.heap.size) (fun _ h => h))
  have HB1 := Lib.hid hb1
  clear hd1 hb1
  go_wp2_with fail
  refine (append_some _ (Iv w0.heap.size w1.heap.size) w0.heap.size rd0 (HD1.out.after ((Below.refl _ _).alloc (Nat.le_refl _) _)) [102] _ [a] (parts0 (RdV.of_rd (S := Iv w0.heap.size w1.heap.size) ((HR0.out.below HB0.out).below (HB1.out.mono hz0)) (Nat.le_trans hz0 hz1) (fun k hk => Iv.out0 _ _ (Nat.lt_of_lt_of_le hk hz0))) _ (Iv.new _ _)) rfl (by rw [flen_one]; show 0 + a.length ≤ 1048576; omega) (by decide)).mono ?_
  rintro e w2 ⟨rfl, hd2, hf2⟩
  obtain ⟨hb2, hz2⟩ := Below.one HB1.out hz1 hf2 (Iv.low _ _)
  rw [flat_one] at hd2
  have HD2 : Hid (Dk w2 (Iv w0.heap.size w2.heap.size) w0.heap.size (app rd0 [102] a)) := Lib.hid (hd2.iv (Iv.low _ _) (by simp; omega))
  have HB2 := Lib.hid hb2
  clear hd2 hf2 hb2
  go_wp2_with fail
  refine (sync_yes _ (Iv w0.heap.size w2.heap.size) w0.heap.size (app rd0 [102] a) (HD2.out.after ((Below.refl _ _).alloc (Nat.le_refl _) _)) _ [[102]] (name1 w2 _ [102] _ (Iv.new _ _)) (short1 (by simp)) (hasOne (rd1_look a))).mono ?_
  rintro e w3 ⟨rfl, hd3, hf3⟩
  obtain ⟨hb3, hz3⟩ := Below.one HB2.out hz2 hf3 (Iv.low _ _)
  have HD3 : Hid (Dk w3 (Iv w0.heap.size w3.heap.size) w0.heap.size (rd2 a)) := Lib.hid (hd3.iv0 (Iv.low _ _))
  have HB3 := Lib.hid hb3
  clear hd3 hf3 hb3
  have hx := HX.out
  have hxb := HXB.out
  go_wp2_with fail
  refine (append_some _ (Iv w0.heap.size w3.heap.size) w0.heap.size (rd2 a) (HD3.out.after ((Below.refl _ _).alloc (Nat.le_refl _) _)) [102, 46, 116, 109, 112] _ [b] (parts0 (RdV.of_rd (S := Iv w0.heap.size w3.heap.size) ((HR1.out.below HB0.out).below (HB3.out.mono hz0)) (Nat.le_trans hz0 hz3) (fun k hk => Iv.out0 _ _ (Nat.lt_of_lt_of_le hk hz0))) _ (Iv.new _ _)) rfl (by rw [flen_one]; rw [rd2_used]; show a.length + b.length ≤ 1048576; omega) (by have := rd2_len a; omega)).mono ?_
  rintro e w4 ⟨rfl, hd4, hf4⟩
  obtain ⟨hb4, hz4⟩ := Below.one HB3.out hz3 hf4 (Iv.low _ _)
  rw [flat_one] at hd4
  have HD4 : Hid (Dk w4 (Iv w0.heap.size w4.heap.size) w0.heap.size (rd3 a b)) := Lib.hid (hd4.iv (Iv.low _ _) (by simp; omega))
  have HB4 := Lib.hid hb4
  clear hd4 hf4 hb4
  go_wp2_with fail
  refine (sync_yes _ (Iv w0.heap.size w4.heap.size) w0.heap.size (rd3 a b) (HD4.out.after ((Below.refl _ _).alloc (Nat.le_refl _) _)) _ [[102, 46, 116, 109, 112]] (name1 w4 _ [102, 46, 116, 109, 112] _ (Iv.new _ _)) (short1 (by simp)) (hasOne (rd3_tmp a b))).mono ?_
  rintro e w5 ⟨rfl, hd5, hf5⟩
  obtain ⟨hb5, hz5⟩ := Below.one HB4.out hz4 hf5 (Iv.low _ _)
  have HD5 : Hid (Dk w5 (Iv w0.heap.size w5.heap.size) w0.heap.size (rd4 a b)) := Lib.hid (hd5.iv0 (Iv.low _ _))
  have HB5 := Lib.hid hb5
  clear hd5 hf5 hb5
  go_wp2_with fail
  refine (rename_some w5 (Iv w0.heap.size w5.heap.size) w0.heap.size (rd4 a b) HD5.out [102, 46, 116, 109, 112] [102] (by unfold maxLen; simp) (by have := rd4_len a b; omega) _ (rd4_tmp a b) (by decide) (by decide)).mono ?_
  rintro e w6 ⟨rfl, hd6, hf6⟩
  have hb6 := HB5.out.trans (hf6.iv hz5 (Iv.low _ _))
  have hz6 := Nat.le_trans hz5 hf6.size
  have HD6 : Hid (Dk w6 (Iv w0.heap.size w6.heap.size) w0.heap.size (rd5 a b)) := Lib.hid (hd6.iv0 (Iv.low _ _))
  have HB6 := Lib.hid hb6
  clear hd6 hf6 hb6
  go_wp2_with fail
  refine (crash_any _ (Iv w0.heap.size w6.heap.size) w0.heap.size (rd5 a b) (HD6.out.after ((Below.refl _ _).alloc (Nat.le_refl _) _)) _ [q, q, q] (RdV.new w6 _ [.int .i64 q, .int .i64 q, .int .i64 q] 3 (0, 0) (by simp) (Iv.new _ _ _ (Nat.le_refl _))) (ints1 (n := 3) hq) (by have := rd5_len a b; omega)).mono ?_
  rintro e w7 ⟨rfl, hd7, hf7⟩
  obtain ⟨hb7, hz7⟩ := Below.one HB6.out hz6 hf7 (Iv.low _ _)
  have HD7 : Hid (Dk w7 (Iv w0.heap.size w7.heap.size) w0.heap.size (crash (rd5 a b) [q, q, q])) := Lib.hid (hd7.iv (Iv.low _ _) (by simp; omega))
  have HB7 := Lib.hid hb7
  clear hd7 hf7 hb7
  obtain ⟨g, hg, hgd⟩ := crash_look (rd5_look a b) rfl [q, q, q]
  have HRd := Lib.hid (read_some w7 (Iv w0.heap.size w7.heap.size) w0.heap.size (crash (rd5 a b) [q, q, q]) HD7.out [102] (by unfold maxLen; simp) g hg)
  have HG := Lib.hid hgd
  clear hg hgd
  go_wp2_with fail
  refine HRd.out.mono ?_
  rintro e w8 ⟨v8, rfl, ho8, hb8⟩
  rw [HG.out] at ho8
  have HB8 := Lib.hid hb8
  have hs1 := str_run (ho8.rd (by show b.length ≤ _; omega))
  have hs2 := str_run (((HR1.out.below HB0.out).below (HB7.out.mono hz0)).below (hb8.mono (Nat.le_trans hz0 hz7)))
  obtain ⟨n8, p8, cap8, rfl⟩ := ho8.shape
  clear ho8 hb8
  go_wp2_with fail
  go_ret
  exact ⟨rfl, HB0.out.trans ((HB7.out.mono hz0).trans (HB8.out.mono (Nat.le_trans hz0 hz7)))⟩
end Go.Proofs.Ytlekffhacmdnnaa
