/-
  The walk over known: the chapter's first example.
-/
import Derived.Test.YtlekffhacmdnnaaIv
namespace Go.Proofs.Ytlekffhacmdnnaa
open Go.RowKit

set_option maxRecDepth 100000 in
set_option maxHeartbeats 2000000 in
theorem known_any (w : World) : Calls Try.prog 8 #[] w fun e w' => e = .returned (.bool true) ∧ Below w.heap.size w w' := by
  have kc := fun (w : World) (C : Array Value) (n c : Nat) => Lib.run_convert_bytes_const (P := Try.prog) w 33 5 C n c Try.underlying33 Try.underlying5
  go_enter Try.func8, Try.ntmps8
  go_wp2_with fail
  refine (new_any w 100 (by omega) (by omega)).mono ?_
  rintro e w1 ⟨rfl, hd1, hb1⟩
  have HD1 := Lib.hid (hd1.iv0 (n := w.heap.size) (fun _ h => h))
  have hz1 := hb1.size
  have HB1 := Lib.hid hb1
  clear hd1 hb1
  go_wp2_with fail
  have HP1 := Lib.hid (parts1 w1 (Iv w.heap.size w1.heap.size) [120, 121] 5 33 (2, 3) #[.int .u8 120, .int .u8 121] 2 (by simp [bs, bv]) rfl (by simp) (Iv.new _ _))
  refine (append_some _ (Iv w.heap.size w1.heap.size) w.heap.size ⟨100, [], 0⟩ (HD1.out.after (((Below.refl _ _).alloc (Nat.le_refl _) _).alloc (by simp) _)) [97] _ [[120, 121]] HP1.out rfl (by decide) (by decide)).mono ?_
  rintro e w2 ⟨rfl, hd2, hf2⟩
  obtain ⟨hb2, hz2⟩ := Below.two HB1.out hz1 hf2 (Iv.low _ _)
  have HD2 : Hid (Dk w2 (Iv w.heap.size w2.heap.size) w.heap.size kd1) := Lib.hid (hd2.iv (Iv.low _ _) (by simp; omega))
  have HB2 := Lib.hid hb2
  clear hd2 hf2 hb2 HP1
  go_wp2_with fail
  refine (sync_yes _ (Iv w.heap.size w2.heap.size) w.heap.size kd1 (HD2.out.after ((Below.refl _ _).alloc (Nat.le_refl _) _)) _ [[97]] (name1 w2 _ [97] _ (Iv.new _ _)) (short1 (by simp)) (by rfl)).mono ?_
  rintro e w3 ⟨rfl, hd3, hf3⟩
  obtain ⟨hb3, hz3⟩ := Below.one HB2.out hz2 hf3 (Iv.low _ _)
  have HD3 : Hid (Dk w3 (Iv w.heap.size w3.heap.size) w.heap.size kd2) := Lib.hid (hd3.iv0 (Iv.low _ _))
  have HB3 := Lib.hid hb3
  clear hd3 hf3 hb3
  go_wp2_with fail
  have HP3 := Lib.hid (parts1 w3 (Iv w.heap.size w3.heap.size) [122, 119] 5 33 (2, 3) #[.int .u8 122, .int .u8 119] 2 (by simp [bs, bv]) rfl (by simp) (Iv.new _ _))
  refine (append_some _ (Iv w.heap.size w3.heap.size) w.heap.size kd2 (HD3.out.after (((Below.refl _ _).alloc (Nat.le_refl _) _).alloc (by simp) _)) [97] _ [[122, 119]] HP3.out rfl (by decide) (by decide)).mono ?_
  rintro e w4 ⟨rfl, hd4, hf4⟩
  obtain ⟨hb4, hz4⟩ := Below.two HB3.out hz3 hf4 (Iv.low _ _)
  have HD4 : Hid (Dk w4 (Iv w.heap.size w4.heap.size) w.heap.size kd3) := Lib.hid (hd4.iv (Iv.low _ _) (by simp; omega))
  have HB4 := Lib.hid hb4
  clear hd4 hf4 hb4 HP3
  go_wp2_with fail
  have HP4 := Lib.hid (parts1 w4 (Iv w.heap.size w4.heap.size) [113] 5 33 (1, 2) #[.int .u8 113] 1 (by simp [bs, bv]) rfl (by simp) (Iv.new _ _))
  refine (append_some _ (Iv w.heap.size w4.heap.size) w.heap.size kd3 (HD4.out.after (((Below.refl _ _).alloc (Nat.le_refl _) _).alloc (by simp) _)) [98] _ [[113]] HP4.out rfl (by decide) (by decide)).mono ?_
  rintro e w5 ⟨rfl, hd5, hf5⟩
  obtain ⟨hb5, hz5⟩ := Below.two HB4.out hz4 hf5 (Iv.low _ _)
  have HD5 : Hid (Dk w5 (Iv w.heap.size w5.heap.size) w.heap.size kd4) := Lib.hid (hd5.iv (Iv.low _ _) (by simp; omega))
  have HB5 := Lib.hid hb5
  clear hd5 hf5 hb5 HP4
  go_wp2_with fail
  refine (crash_any _ (Iv w.heap.size w5.heap.size) w.heap.size kd4 (HD5.out.after ((Below.refl _ _).alloc (Nat.le_refl _) _)) _ [1] (RdV.new w5 _ [.int .i64 1] 3 (0, 0) (by simp) (Iv.new _ _ _ (Nat.le_refl _))) (ints1 (n := 1) (by omega)) (by decide)).mono ?_
  rintro e w6 ⟨rfl, hd6, hf6⟩
  obtain ⟨hb6, hz6⟩ := Below.one HB5.out hz5 hf6 (Iv.low _ _)
  have HD6 : Hid (Dk w6 (Iv w.heap.size w6.heap.size) w.heap.size kd5) := Lib.hid (hd6.iv (Iv.low _ _) (by simp; omega))
  have HB6 := Lib.hid hb6
  clear hd6 hf6 hb6
  go_wp2_with fail
  refine (read_some w6 (Iv w.heap.size w6.heap.size) w.heap.size kd5 HD6.out [97] (by unfold maxLen; simp) _ kd5_a).mono ?_
  rintro e w7 ⟨v7, rfl, ho7, hb7⟩
  have HO7 := Lib.hid ho7
  have HB7 := Lib.hid hb7
  have hz7 := hb7.size
  obtain ⟨n7, p7, cap7, rfl⟩ := ho7.shape
  clear ho7 hb7
  go_wp2_with fail
  refine (read_some w7 (Iv w.heap.size w6.heap.size) w.heap.size kd5 (HD6.out.after HB7.out) [98] (by unfold maxLen; simp) _ kd5_b).mono ?_
  rintro e w8 ⟨v8, rfl, ho8, hb8⟩
  have HO8 := Lib.hid ho8
  have HB8 := Lib.hid hb8
  have hz8 := hb8.size
  obtain ⟨p8, cap8, rfl, _, _⟩ := ho8.form
  have hstr := str_run ((HO7.out.after HB8.out).rd (by simp))
  have HL := Lib.hid (list_any w8 (Iv w.heap.size w6.heap.size) w.heap.size kd5 ((HD6.out.after HB7.out).after HB8.out) 0 none (by decide))
  clear ho8 hb8
  go_wp2_with (go_at_call 14; refine HL.out.mono ?_; rintro e w9 ⟨v9, rfl, ho9, hb9⟩; have HB9 := Lib.hid hb9; obtain ⟨p9, cap9, rfl, _, _⟩ := ho9.shape; clear hb9 ho9)
  go_ret
  refine ⟨ret_bool (by rfl), HB6.out.trans ((HB7.out.mono hz6).trans ((HB8.out.mono (Nat.le_trans hz6 hz7)).trans (HB9.out.mono (Nat.le_trans hz6 (Nat.le_trans hz7 hz8)))))⟩
end Go.Proofs.Ytlekffhacmdnnaa
