/-
  A segment's file: its name as it is made, its number as it is read off.
-/
import Derived.Test.YtlbfgkocpjlamaaGreatDoorWC
import Derived.Test.YtlbfgkocpjlamaaGreatDoorWA
import Derived.Test.YtlbfgkocpjlamaaGreatDoorDA
namespace Go.Proofs.YtlbfgkocpjlamaaGreatDoor
open Go.RowKit

theorem grow_below (w : World) (k : Nat) (os : Array Obj) : Below w.heap.size w (Sort.grow (w.drewN k) os) :=
  ⟨rfl, rfl, rfl, by simp [Sort.grow], fun b hb => by
    show (w.heap ++ os)[b]? = _
    rw [Array.getElem?_append_left hb]⟩
theorem repeat_zero : ∀ k : Nat, Lib.repeatL [48] k = List.replicate k (48 : UInt8)
  | 0 => rfl
  | k + 1 => by
    have h := repeat_zero k
    rw [Lib.repeatL, h, List.replicate_succ]
    rfl
theorem ba_append (a b : List UInt8) : (⟨a.toArray⟩ : ByteArray) ++ (⟨b.toArray⟩ : ByteArray) = ⟨(a ++ b).toArray⟩ := by
  apply ByteArray.ext
  simp

set_option maxHeartbeats 400000 in
theorem seg_any (nm : List UInt8) (n : Nat) (hn : n ≤ 999999) (hl : nm.length ≤ 1000) (w : World) (hp : Pow w) :
    Calls Tryz.prog 16 #[.string ⟨nm.toArray⟩, .int .i64 (n : Int)] w fun e w' => e = .returned (.string ⟨(segName nm n).toArray⟩) ∧ Below w.heap.size w w' := by
  obtain ⟨h6, hpad⟩ := itoa_pad hn
  have hI := Tryz.strconv_Itoa (n : Int) (by omega) (by omega) w hp
  unfold segName
  rw [← hpad]
  clear hpad
  generalize Lib.itoa (n : Int) = s at *
  have hm : ((6 - s.length : Nat) : Int) = max (6 - (s.length : Int)) 0 := by omega
  have hR : ∀ w1, Calls Tryz.prog 34 #[.string ⟨#[48]⟩, .int .i64 (max (6 - (s.length : Int)) 0)] w1 fun e w' => e = .returned (.string ⟨(List.replicate (6 - s.length) (48 : UInt8)).toArray⟩) ∧ Below w1.heap.size w1 w' := fun w1 => by
    have h := Tryz.strings_Repeat ⟨#[48]⟩ (6 - s.length) w1 (by omega) (by simp [ByteArray.size]; omega)
    rw [hm] at h
    have e : Lib.repeatL (⟨#[48]⟩ : ByteArray).data.toList (6 - s.length) = List.replicate (6 - s.length) 48 := repeat_zero _
    rw [e] at h
    exact h
  have e : Hid (((⟨nm.toArray⟩ : ByteArray) ++ (⟨#[45]⟩ : ByteArray) ++ ⟨(List.replicate (6 - s.length) (48 : UInt8)).toArray⟩ ++ ⟨s.toArray⟩) = ⟨(nm ++ 45 :: (List.replicate (6 - s.length) 48 ++ s)).toArray⟩) := Lib.hid (by
    have h := ba_append nm [45]
    rw [show (⟨#[45]⟩ : ByteArray) = ⟨[45].toArray⟩ from rfl, h, ba_append, ba_append]
    simp)
  have hr : (List.replicate (6 - s.length) (48 : UInt8)).length ≤ 6 := by simp
  generalize List.replicate (6 - s.length) (48 : UInt8) = r at *
  clear hm
  go_enter Tryz.func16, Tryz.ntmps16
  go_wp2_with (go_at_call 33; refine hI.mono ?_; rintro e w1 ⟨rfl, k, os, rfl⟩)
  refine (hR _).mono ?_
  rintro e w2 ⟨rfl, h2⟩
  go_wp2_with fail
  go_ret
  have hg := grow_below w k os
  refine ⟨?_, hg.trans (h2.mono hg.size)⟩
  show Ending.returned (.string _) = _
  rw [e.out]

/-- .. of a log. -/
theorem file_any (w : World) (lb db : Nat) (nm : List UInt8) (m : Nat) (h : LogAt w lb db nm m) (n : Nat) (hn : n ≤ 999999) (hl : nm.length ≤ 1000) (hp : Pow w) :
    Calls Tryz.prog 26 #[.pointer (some ⟨lb, 0, none⟩), .int .i64 (n : Int)] w fun e w' => e = .returned (.string ⟨(segName nm n).toArray⟩) ∧ Below w.heap.size w w' := by
  have c1 := h.c1
  have hS := seg_any nm n hn hl w hp
  go_enter Tryz.func26, Tryz.ntmps26
  go_wp2_with fail
  refine hS.mono ?_
  rintro e w1 ⟨rfl, hb⟩
  go_wp2_with fail
  go_ret
  exact ⟨rfl, hb⟩

theorem isNumber_any (n : Int) (w : World) : Calls Tryz.prog 21 #[.int .i64 n] w fun e w' => e = .returned (.bool (decide (0 ≤ n) && decide (n ≤ 999999))) ∧ w = w' := by
  generalize hb : (decide (0 ≤ n) && decide (n ≤ 999999)) = r
  have HB := Lib.hid hb
  clear hb
  go_enter Tryz.func21, Tryz.ntmps21
  go_wp2
  all_goals
    go_ret
    refine ⟨ret_bool ?_, rfl⟩
    rw [← HB.out]
    rw [Bool.eq_iff_iff]
    simp
    omega

theorem numberOf_any (nm : List UInt8) (n : Nat) (hn : n ≤ 999999) (hl : nm.length ≤ 1000) (w : World) (hp : Tb w) :
    Calls Tryz.prog 60 #[.string ⟨nm.toArray⟩, .string ⟨(segName nm n).toArray⟩] w fun e w' => e = .returned (.tuple #[.int .i64 (n : Int), .bool true]) ∧ Below w.heap.size w w' := by
  have hT : ∀ s : ByteArray, s = ⟨(nm ++ [45]).toArray⟩ → Calls Tryz.prog 75 #[.string ⟨(segName nm n).toArray⟩, .string s] w fun e w' => e = .returned (.string ⟨(digs 6 n).toArray⟩) ∧ w' = w := fun s hs => by
    have h := Tryz.strings_TrimPrefix ⟨(segName nm n).toArray⟩ s w
    rw [hs] at h ⊢
    have e : Lib.trimPrefix (⟨(segName nm n).toArray⟩ : ByteArray).data.toList (⟨(nm ++ [45]).toArray⟩ : ByteArray).data.toList = digs 6 n := seg_trim nm n
    rw [e] at h
    exact h
  have hA := Tryz.strconv_Atoi ⟨(digs 6 n).toArray⟩ (n : Int) (by simp [ByteArray.size, digs_length]) (by simpa using atoi_digs hn) w
  have hN := isNumber_any (n : Int)
  have hS := fun w1 h1 => seg_any nm n hn hl w1 h1
  have hP := Lib.hid hp
  have hcat : (⟨nm.toArray⟩ : ByteArray) ++ (⟨#[45]⟩ : ByteArray) = ⟨(nm ++ [45]).toArray⟩ := ba_append nm [45]
  have HT := hT _ hcat
  rw [show (decide (0 ≤ (n : Int)) && decide ((n : Int) ≤ 999999)) = true by simp; omega] at hN
  clear hT hcat hp
  generalize segName nm n = sn at *
  generalize digs 6 n = dn at *
  go_enter Tryz.func60, Tryz.ntmps60
  go_wp2_with fail
  refine HT.mono ?_
  rintro e w' ⟨rfl, hw⟩
  obtain rfl := hw.symm
  go_wp2_with (go_at_call 74; refine hA.mono ?_; rintro e w1 ⟨rfl, t, rfl⟩; refine Hid.out ?_)
  refine Lib.hid ?_
  have hb1 := Lib.bytesWorld_below w 5 t
  generalize Lib.bytesWorld w 5 t = w1 at *
  have hS1 := hS w1 (hP.out.below hb1).pow
  go_wp2_with (go_at_call 21; refine (hN w1).mono ?_; rintro e w2 ⟨rfl, rfl⟩)
  refine hS1.mono ?_
  rintro e w2 ⟨rfl, hb2⟩
  go_wp2_with fail
  go_ret2
  exact ⟨rfl, hb1.trans (hb2.mono hb1.size)⟩
end Go.Proofs.YtlbfgkocpjlamaaGreatDoor
