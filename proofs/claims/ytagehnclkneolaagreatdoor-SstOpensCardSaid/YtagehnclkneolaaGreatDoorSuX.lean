/-
  The numbers' texts, decimals, (*sst.Wrong).Error.
-/
import Derived.Test.YtagehnclkneolaaGreatDoorSuV
namespace Go.Proofs.YtagehnclkneolaaGreatDoor
open Go.RowKit

/-- The texts of the numbers that an opening tells. -/
def errTxt (e : Nat) : List UInt8 := if e = 11 then [115, 104, 111, 114, 116] else if e = 13 then [115, 117, 109] else [102, 111, 114, 109]
def ErrN (e : Nat) : Prop := e = 11 ∨ e = 13 ∨ e = 14
theorem errTxt_len (e : Nat) : (errTxt e).length ≤ 5 := by unfold errTxt; split <;> (try split) <;> simp
set_option maxRecDepth 100000 in
set_option maxHeartbeats 1000000 in
theorem errno_any (e : Nat) (w : World) (h : ErrN e) :
    Calls Tryz.prog 26 #[.int .i64 (e : Int)] w fun x w' => x = .returned (.string ⟨(errTxt e).toArray⟩) ∧ Below w.heap.size w w' := by
  rcases h with rfl | rfl | rfl
  all_goals
    go_enter Tryz.func26, Tryz.ntmps26
    go_wp2_with fail
    go_ret
    exact ⟨rfl, Below.refl _ _⟩

theorem dec_len : ∀ n : Nat, (Lib.decDigits n).length ≤ n + 1 := fun n => by
  induction n using Nat.strongRecOn with
  | _ n ih =>
    rw [Lib.decDigits]
    split
    · simp
    · next h =>
      have := ih (n / 10) (by omega)
      rw [List.length_append, List.length_singleton]
      omega
theorem itoa_dec (n : Nat) : Lib.itoa (n : Int) = Lib.decDigits n := by
  unfold Lib.itoa
  rw [if_neg (by omega)]
  simp
theorem dig_int (d : Nat) (h : d < 10) : ((UInt8.ofNat (48 + d)).toNat : Int) = 48 + (d : Int) := by
  rw [UInt8.toNat_ofNat']
  omega

theorem one_str (W : World) (c : UInt8) : (convert 22 9 (.slice (some ⟨W.heap.size, 0, none⟩) 1 1)).run Tryz.prog (W.alloc (.cells #[.int .u8 (c.toNat : Int)] 5)) = .ok (.string ⟨#[c]⟩) (W.alloc (.cells #[.int .u8 (c.toNat : Int)] 5)) :=
  txt_run (Rd.new W [c] 5 #[.int .u8 (c.toNat : Int)] rfl (by simp))
theorem str_add (a b : List UInt8) (h : a.length + b.length ≤ 4611686018427387904) (W : World) : (Op.stringOp .add ⟨a.toArray⟩ ⟨b.toArray⟩).run Tryz.prog W = .ok (.string ⟨(a ++ b).toArray⟩) W := by
  rw [run_string_add_sum W _ _ (by simp [ByteArray.size]; omega), ByteArray.mk_append_mk]

set_option maxRecDepth 100000 in
set_option maxHeartbeats 2000000 in
theorem decimal_any (n : Nat) (w : World) (hn : n ≤ 1073741824) :
    Calls Tryz.prog 27 #[.int .i64 (n : Int)] w fun x w' => x = .returned (.string ⟨(Lib.decDigits n).toArray⟩) ∧ Below w.heap.size w w' := by
  obtain ⟨D, hD⟩ : ∃ D, Lib.decDigits n = D := ⟨_, rfl⟩
  have hDl := dec_len n
  rw [hD] at hDl ⊢
  have h0 : (0 : Int) ≤ (n : Int) := by omega
  obtain ⟨c, hc⟩ : ∃ c, UInt8.ofNat (48 + n % 10) = c := ⟨_, rfl⟩
  have hcn : 48 + (n : Int) % 10 = (c.toNat : Int) := by rw [← hc, dig_int _ (by omega)]; omega
  have HStart : Hid (c = UInt8.ofNat (48 + n % 10) ∧ D = Lib.decDigits n ++ []) := Lib.hid ⟨hc.symm, by rw [hD]; simp⟩
  clear hc hD
  have t1 := one_str w c
  go_enter Tryz.func27, Tryz.ntmps27
  go_wp2_with fail
  clear t1 hcn h0
  go_loopw [0, 3] (fun nv sv wr => ∃ (k : Nat) (c : UInt8) (T : List UInt8), k ≤ n ∧ nv = .int .i64 (k : Int) ∧ sv = .string ⟨(c :: T).toArray⟩ ∧ Hid (c = UInt8.ofNat (48 + k % 10) ∧ D = Lib.decDigits k ++ T) ∧ Below w.heap.size w wr) (fun nv _ _ => (intOf nv).toNat)
  case atStart => exact ⟨n, c, [], Nat.le_refl _, rfl, rfl, HStart.out, (Below.refl _ _).alloc (Nat.le_refl _) _⟩
  case round =>
    obtain ⟨k, c, T, hk, rfl, rfl, hh, hb⟩ := hrel
    have HB := Lib.hid hb
    by_cases h10 : k < 10
    · have d1 : decide ((10 : Int) ≤ (k : Int)) = false := decide_eq_false (by omega)
      have d1n : decide (10 ≤ k) = false := decide_eq_false (by omega)
      have HE : Hid (c :: T = D) := Lib.hid (by
        have h := hh.out
        rw [h.2, Lib.decDigits_one h10, h.1, Nat.mod_eq_of_lt h10]
        rfl)
      clear hh h10
      go_wp2_with fail
      go_ret
      exact ⟨by rw [HE.out]; rfl, HB.out⟩
    · have d1 : decide ((10 : Int) ≤ (k : Int)) = true := decide_eq_true (by omega)
      have d1n : decide (10 ≤ k) = true := decide_eq_true (by omega)
      obtain ⟨j, hj⟩ : ∃ j, k / 10 = j := ⟨_, rfl⟩
      have hji : (k : Int) / 10 = (j : Int) := by omega
      have hjk : j < k := by omega
      obtain ⟨c2, hc2⟩ : ∃ c2, UInt8.ofNat (48 + j % 10) = c2 := ⟨_, rfl⟩
      have hcn : 48 + (j : Int) % 10 = (c2.toNat : Int) := by rw [← hc2, dig_int _ (by omega)]; omega
      have HNew : Hid (c2 = UInt8.ofNat (48 + j % 10) ∧ D = Lib.decDigits j ++ (c :: T)) := Lib.hid ⟨hc2.symm, by
        have h := hh.out
        rw [h.2, Lib.decDigits, dif_neg h10, hj, h.1]
        simp⟩
      have hTl : T.length ≤ 1073741825 := by
        have h := congrArg List.length hh.out.2
        rw [List.length_append] at h
        omega
      have t2 := one_str wr c2
      have ha := str_add [c2] (c :: T) (by simp; omega)
      have hk0 : (0 : Int) ≤ (k : Int) := by omega
      have hj0 : (0 : Int) ≤ (j : Int) := by omega
      clear hh h10 hj hc2
      go_wp2_with fail
      go_roundw
      case rel => exact ⟨j, c2, c :: T, by omega, rfl, rfl, HNew, HB.out.alloc HB.out.size _⟩
      case measure => simp [intOf]; omega

def Pow (w : World) : Prop := Lib.TabIs Tryz.prog w "internal/strconv.uint64pow10" .u64 Lib.pow10Tab
theorem pow_at : Tryz.prog.globalNamed "internal/strconv.uint64pow10" = some 4 := by kernel_rfl
theorem Pow.lt {w : World} (h : Pow w) : 4 < w.heap.size := by
  unfold Pow Lib.TabIs World.var? at h
  rw [pow_at] at h
  simp only [Option.bind_some] at h
  rcases Nat.lt_or_ge 4 w.heap.size with hlt | hge
  · exact hlt
  · rw [Array.getElem?_eq_none hge] at h
    simp at h
theorem Pow.keep {w w' : World} (h : Pow w) (hk : w'.heap[4]? = w.heap[4]?) : Pow w' := by
  unfold Pow Lib.TabIs World.var? at h ⊢
  rw [pow_at] at h ⊢
  simp only [Option.bind_some] at h ⊢
  rw [hk]
  exact h
/-- All tables are laid. -/
theorem grow_below (w : World) (k : Nat) (os : Array Obj) : Below w.heap.size w (Sort.grow (w.drewN k) os) :=
  ⟨rfl, rfl, rfl, by simp [Sort.grow], fun b hb => by
    show (w.heap ++ os)[b]? = _
    rw [Array.getElem?_append_left hb]⟩
theorem Pow.below {w w' : World} (h : Pow w) (hb : Below w.heap.size w w') : Pow w' := h.keep (hb.block _ h.lt)

set_option maxRecDepth 100000 in
set_option maxHeartbeats 2000000 in
/-- (*sst.Wrong).Error. -/
theorem werr_any (w : World) (g at_ e : Nat) (hg : w.heap[g]? = some (.cells #[.int .i64 (at_ : Int), .int .i64 (e : Int)] 66 (0, 0))) (he : ErrN e) (ha : at_ ≤ 1073741824) (ht : Pow w) :
    Calls Tryz.prog 25 #[.pointer (some ⟨g, 0, none⟩)] w fun x w' => x = .returned (.string ⟨(errTxt e ++ [32, 97, 116, 32] ++ Lib.decDigits at_).toArray⟩) ∧ Below w.heap.size w w' := by
  have a0 := cell_of (i := 0) hg rfl
  have a1 := cell_of (i := 1) hg rfl
  have HE := Lib.hid (fun (V : World) => errno_any e V he)
  have HI := Lib.hid (fun (V : World) (hV : Below w.heap.size w V) => (by
    have h := Tryz.strconv_Itoa (at_ : Int) (by omega) (by omega) V (ht.below hV)
    rw [itoa_dec] at h
    exact h.mono fun x w' ⟨h1, k, os, h2⟩ => ⟨h1, (by rw [h2]; exact grow_below V k os)⟩ : Calls Tryz.prog 56 #[.int .i64 (at_ : Int)] V fun x w' => x = .returned (.string ⟨(Lib.decDigits at_).toArray⟩) ∧ Below V.heap.size V w'))
  have hl := errTxt_len e
  have hd := dec_len at_
  have p1 := str_add (errTxt e) [32, 97, 116, 32] (by simp; omega)
  have p2 := str_add (errTxt e ++ [32, 97, 116, 32]) (Lib.decDigits at_) (by simp; omega)
  generalize errTxt e ++ [32, 97, 116, 32] ++ Lib.decDigits at_ = R at *
  generalize errTxt e ++ [32, 97, 116, 32] = R1 at *
  generalize errTxt e = E at *
  generalize Lib.decDigits at_ = D at *
  have a0' := fun d os => cell_regrown a0 d os
  have a1' := fun d os => cell_regrown a1 d os
  clear a0 a1 hg he ht
  go_enter Tryz.func25, Tryz.ntmps25
  go_upto_region 1 with (fail)
  refine wp_region_quiet_below (by kernel_rfl) (by kernel_rfl) ?_
  repeat (go_big_quiet_step (first | (go_at_call 26; exact Calls.regrown_of (HE.out _)) | (go_at_call 56; exact Calls.regrown_of (HI.out _ (below_regrown _ _ _)))))
  refine wpQuiet_nil ?_
  intro w8 hw8
  obtain ⟨⟨dq, osq⟩, hw9⟩ := hw8
  subst hw9
  have HB8 : Hid (Below w.heap.size w (Go.Sort.grow (redrawn w dq) osq)) := Lib.hid (below_regrown w dq osq)
  go_wp2_with fail
  go_ret
  exact ⟨rfl, HB8.out⟩
end Go.Proofs.YtagehnclkneolaaGreatDoor
