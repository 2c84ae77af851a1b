/-
  The walks over gf.sixteen, gf.multiplesOf, gf.multiples.times: products by looking up.
-/
import Derived.Test.YtjojimmfjmchcaaGmE
namespace Go.Proofs.Ytjojimmfjmchcaa
open Go.RowKit

def sxG (a : G8) (k : Nat) : G8 := mulG a (bvG k)
theorem bv_half : ∀ k : Nat, k < 256 → bvG k = dblG (bvG (k / 2)) ^^^ (if k % 2 = 1 then 1#8 else 0#8) := by decide +kernel
theorem mul_dbl2 (a b : G8) : mulG a (dblG b) = dblG (mulG a b) := by rw [mul_comm, mul_dbl, mul_comm]
theorem sx_half (a : G8) (k : Nat) (hk : k < 256) : sxG a k = dblG (sxG a (k / 2)) ^^^ (if k % 2 = 1 then a else 0#8) := by
  unfold sxG
  rw [bv_half k hk, mul_right, mul_dbl2]
  congr 1
  split
  · rw [mul_one]
  · rw [mul_zero]
theorem sx_zero (a : G8) : sxG a 0 = 0#8 := by
  unfold sxG
  rw [show bvG 0 = 0#8 from rfl, mul_zero]
/-- The low and the high half of a byte. -/
theorem halves (b : G8) : bvG (b.toNat % 16) ^^^ mulG 16#8 (bvG (b.toNat / 16)) = b := by
  refine all_eight (p := fun b => bvG (b.toNat % 16) ^^^ mulG 16#8 (bvG (b.toNat / 16)) = b) ?_ b
  decide +kernel
theorem sx_both (a b : G8) : sxG a (b.toNat % 16) ^^^ sxG (mulG a 16#8) (b.toNat / 16) = mulG a b := by
  unfold sxG
  rw [← mul_assoc, ← mul_right, halves]
def gv (x : G8) : Value := .int .u8 (x.toNat : Int)
/-- The first k of sixteen. -/
def stL (f : Nat → G8) (k : Nat) : List Value := (List.range 16).map fun j => if j < k then gv (f j) else .int .u8 0
theorem stL_len (f : Nat → G8) (k : Nat) : (stL f k).toArray.size = 16 := by simp [stL]
theorem stL_at (f : Nat → G8) {k j : Nat} (hj : j < 16) (hk : j < k) : (stL f k).toArray[j]? = some (gv (f j)) := by simp [stL, hj, hk]
theorem stL_no (f : Nat → G8) {k j : Nat} (hj : j < 16) (hk : ¬ j < k) : (stL f k).toArray[j]? = some (.int .u8 0) := by simp [stL, hj, hk]
theorem stL_set (f : Nat → G8) {k : Nat} (hk : k < 16) : (stL f k).toArray.setIfInBounds k (gv (f k)) = (stL f (k + 1)).toArray := by
  apply Array.ext_getElem?
  intro j
  by_cases hj : j < 16
  · by_cases h : k = j
    · subst h
      rw [Array.getElem?_setIfInBounds_self_of_lt (by rw [stL_len]; exact hk), stL_at f hk (by omega)]
    · rw [Array.getElem?_setIfInBounds_ne h]
      by_cases h2 : j < k
      · rw [stL_at f hj h2, stL_at f hj (by omega)]
      · rw [stL_no f hj h2, stL_no f hj (by omega)]
  · rw [Array.getElem?_eq_none (by rw [Array.size_setIfInBounds, stL_len]; omega), Array.getElem?_eq_none (by rw [stL_len]; omega)]
theorem ix16 (W : World) (k : IntKind) (ab o n : Nat) (h : n < 16) : (Instr.indexAt 91 (.pointer (some ⟨ab, o, none⟩)) (.int k (n : Int))).run Try.prog W = .ok (.pointer (some ⟨ab, o + n, none⟩)) W := by
  have hl : Try.prog.arrayLen 91 = 16 := by simp [Program.arrayLen, Try.underlying91]
  have he : Try.prog.elem 91 = 5 := by simp [Program.elem, Try.underlying91]
  have hs : (Go.sizeOf 5).run Try.prog W = .ok 1 W := by kernel_rfl
  have h0 : Try.prog.underlying 91 = some (.array (Try.prog.arrayLen 91) (Try.prog.elem 91)) := by rw [hl, he]; exact Try.underlying91
  have h1 := run_indexAt_array (P := Try.prog) (w := W) 91 ⟨ab, o, none⟩ k (n : Int) h0
  rw [hl, if_pos (by omega), he, hs] at h1
  rw [h1]
  simp [Result.andThen, Addr.add]
  try omega

theorem stL_one (f : Nat → G8) (k : Nat) : (stL f k).toArray.all (·.oneCell') = true := by
  rw [Array.all_eq_true_iff_forall_mem]
  intro x hx
  simp only [stL, List.mem_toArray, List.mem_map] at hx
  obtain ⟨j, _, rfl⟩ := hx
  split <;> rfl
theorem inf16 : (Try.prog.info? 91).map (·.size) = some 16 := by kernel_rfl
set_option maxRecDepth 100000 in
set_option maxHeartbeats 1000000 in
theorem sixteen_any (w : World) (a : G8) : Calls Try.prog 64 #[.int .u8 (a.toNat : Int)] w fun e w' => e = .returned (.agg (stL (sxG a) 16).toArray) ∧ Below w.heap.size w w' := by
  have hz0 : (stL (sxG a) 0).toArray = #[.int .u8 0, .int .u8 0, .int .u8 0, .int .u8 0, .int .u8 0, .int .u8 0, .int .u8 0, .int .u8 0, .int .u8 0, .int .u8 0, .int .u8 0, .int .u8 0, .int .u8 0, .int .u8 0, .int .u8 0, .int .u8 0] := rfl
  obtain ⟨X, hX⟩ : ∃ X, (w.alloc (.cells #[.int .u8 0, .int .u8 0, .int .u8 0, .int .u8 0, .int .u8 0, .int .u8 0, .int .u8 0, .int .u8 0, .int .u8 0, .int .u8 0, .int .u8 0, .int .u8 0, .int .u8 0, .int .u8 0, .int .u8 0, .int .u8 0] 91)).alloc (.cells #[.int .u8 0, .int .u8 0, .int .u8 0, .int .u8 0, .int .u8 0, .int .u8 0, .int .u8 0, .int .u8 0, .int .u8 0, .int .u8 0, .int .u8 0, .int .u8 0, .int .u8 0, .int .u8 0, .int .u8 0, .int .u8 0] 91) = X := ⟨_, rfl⟩
  rw [← hz0] at hX
  have HXb : Hid (Below w.heap.size w X) := Lib.hid (by rw [← hX]; exact (bel_alloc _ _).alloc (by simp) _)
  have HX0 : Hid (X.heap[w.heap.size]? = some (.cells (stL (sxG a) 0).toArray 91 (0, 0))) := Lib.hid (by rw [← hX]; exact (alloc_old (by simp) _).trans (heap_alloc_new w _))
  have HX1 : Hid (X.heap[w.heap.size + 1]? = some (.cells (stL (sxG a) 0).toArray 91 (0, 0))) := Lib.hid (by rw [← hX]; exact heap_alloc2_new w _ _)
  rw [hz0] at hX
  clear hz0
  go_enter Try.func64, Try.ntmps64
  go_wp2_with fail
  go_loopw [5] (fun i wr => ∃ k : Nat, k ≤ 16 ∧ i = .int .i64 (k : Int) ∧ wr.heap[w.heap.size + 1]? = some (.cells (stL (sxG a) k).toArray 91 (0, 0)) ∧ wr.heap[w.heap.size]? = some (.cells (stL (sxG a) 0).toArray 91 (0, 0)) ∧ Below w.heap.size w wr) (fun i _ => 16 - (intOf i).toNat)
  case atStart => exact ⟨0, by omega, rfl, HX1.out, HX0.out, HXb.out⟩
  case round =>
    obtain ⟨k, hk, rfl, h1, h0, hb⟩ := hrel
    have H1 := Lib.hid h1
    have H0 := Lib.hid h0
    have HB := Lib.hid hb
    clear hX
    by_cases hlt : k < 16
    · have d1 : decide ((k : Int) < 16) = true := decide_eq_true (by omega)
      have c1 : wr.cell? ⟨w.heap.size + 1, k / 2, none⟩ = some (.int .u8 ((sxG a (k / 2)).toNat : Int)) := cell_of h1 (by
        by_cases h2 : k / 2 < k
        · exact stL_at _ (by omega) h2
        · have h3 : k = 0 := by omega
          subst h3
          rw [stL_no _ (by omega) (by omega), sx_zero]
          rfl)
      have f1 := frozen_of (i := k) h1
      have c2 : wr.cell? ⟨w.heap.size + 1, k, none⟩ = some (.int .u8 0) := cell_of h1 (stL_no _ hlt (by omega))
      have hi1 : ∀ W, (Instr.indexAt 91 (.pointer (some ⟨w.heap.size + 1, 0, none⟩)) (.int .i64 ((k : Int) / 2))).run Try.prog W = .ok (.pointer (some ⟨w.heap.size + 1, k / 2, none⟩)) W := fun W => by
        have h := ix16 W .i64 (w.heap.size + 1) 0 (k / 2) (by omega)
        rw [Int.natCast_ediv, Nat.zero_add] at h
        exact h
      have hi2 : ∀ W, (Instr.indexAt 91 (.pointer (some ⟨w.heap.size + 1, 0, none⟩)) (.int .i64 (k : Int))).run Try.prog W = .ok (.pointer (some ⟨w.heap.size + 1, k, none⟩)) W := fun W => by
        have h := ix16 W .i64 (w.heap.size + 1) 0 k hlt
        rw [Nat.zero_add] at h
        exact h
      have HD := Lib.hid (fun W => double_any W (sxG a (k / 2)))
      have HS := Lib.hid (sx_half a k (by omega))
      have HT : Hid (wr.heap[w.heap.size + 1]? = some (.cells (stL (sxG a) k).toArray 91 (0, 0)) → (wr.setCell ⟨w.heap.size + 1, k, none⟩ (.int .u8 ((sxG a k).toNat : Int))).heap[w.heap.size + 1]? = some (.cells (stL (sxG a) (k + 1)).toArray 91 (0, 0))) := Lib.hid (fun h => by
        rw [← stL_set _ hlt]
        exact setCell_same h _)
      have HR0 : Hid (∀ v, (wr.setCell ⟨w.heap.size + 1, k, none⟩ v).heap[w.heap.size]? = some (.cells (stL (sxG a) 0).toArray 91 (0, 0))) := Lib.hid (fun v => (setCell_other (by omega) _).trans H0.out)
      have HRB : Hid (∀ v, Below w.heap.size w (wr.setCell ⟨w.heap.size + 1, k, none⟩ v)) := Lib.hid (fun v => HB.out.setCell (by show w.heap.size ≤ w.heap.size + 1; omega) _)
      generalize sxG a (k / 2) = y at *
      generalize sxG a k = x at *
      have hand : bits .and .u8 (k : Int) 1 = ((k % 2 : Nat) : Int) := by
        have h := u8_and_nat k 1 (by omega) (by omega)
        rw [Nat.and_one_is_mod] at h
        exact h
      clear h1 h0 hb
      rcases Nat.mod_two_eq_zero_or_one k with h2 | h2
      all_goals rw [h2] at hand
      · have hx : x = dblG y := by
          have h := HS.out
          rw [if_neg (by omega), BitVec.xor_zero] at h
          exact h
        have HA : Hid (∀ W : World, Calls Try.prog 18 #[.int .u8 ((dblG y).toNat : Int), .int .u8 0] W fun e w' => e = .returned (.int .u8 (x.toNat : Int)) ∧ W = w') := Lib.hid (fun W => by
          have h := add_any W (dblG y) 0#8
          rw [BitVec.xor_zero] at h
          subst hx
          exact h)
        clear h2 hx
        go_wp2_with fail
        refine (HD.out _).mono ?_
        rintro e w' ⟨rfl, rfl⟩
        go_wp2_with fail
        refine (HA.out _).mono ?_
        rintro e w' ⟨rfl, rfl⟩
        go_wp2_with fail
        exact ⟨⟨k + 1, by omega, by go_num, HT.out H1.out, HR0.out _, HRB.out _⟩, by simp [intOf]; omega⟩
      · have hx : x = dblG y ^^^ a := by
          have h := HS.out
          rw [if_pos h2] at h
          exact h
        have HA : Hid (∀ W : World, Calls Try.prog 18 #[.int .u8 ((dblG y).toNat : Int), .int .u8 (a.toNat : Int)] W fun e w' => e = .returned (.int .u8 (x.toNat : Int)) ∧ W = w') := Lib.hid (fun W => by
          have h := add_any W (dblG y) a
          subst hx
          exact h)
        clear h2 hx
        go_wp2_with fail
        refine (HD.out _).mono ?_
        rintro e w' ⟨rfl, rfl⟩
        go_wp2_with fail
        refine (HA.out _).mono ?_
        rintro e w' ⟨rfl, rfl⟩
        go_wp2_with fail
        exact ⟨⟨k + 1, by omega, by go_num, HT.out H1.out, HR0.out _, HRB.out _⟩, by simp [intOf]; omega⟩
    · obtain rfl : k = 16 := by omega
      have hi16 : (Try.prog.info? 91).map (·.size) = some (stL (sxG a) 16).toArray.size := by rw [stL_len]; exact inf16
      have HI := Lib.hid hi16
      clear h1 h0 hb hi16
      go_wp2_with (first
        | (refine wpList_load_row rfl 91 _ rfl (w.heap.size + 1) rfl 91 _ (0, 0) _ H1.out Try.underlying91 rfl HI.out ?_)
        | (refine wpList_store_row rfl 91 _ _ rfl w.heap.size (stL (sxG a) 16).toArray rfl rfl 91 (stL (sxG a) 0).toArray H0.out HI.out rfl (stL_one _ _) ?_))
      refine bodyPost_ret (v := .agg (stL (sxG a) 16).toArray) (results_cell_row rfl _ _ w.heap.size 91 _ (0, 0) _ rfl (setRow_heap _ _ _ _ _ _ H0.out) Try.underlying91 rfl HI.out) rfl ⟨rfl, ?_⟩
      exact HB.out.trans ⟨rfl, rfl, rfl, by simp, fun k hk => setRow_other _ _ _ _ (by omega)⟩

/-- The multiples of a: by the low half, by the high half. -/
def mulC (a : G8) : Array Value := (stL (sxG a) 16 ++ stL (sxG (mulG a 16#8)) 16).toArray
theorem mulC_low (a : G8) {k : Nat} (h : k < 16) : (mulC a)[k]? = some (.int .u8 ((sxG a k).toNat : Int)) := by
  have h1 := stL_at (sxG a) h h
  have h2 := stL_len (sxG a) 16
  simp only [List.size_toArray, List.getElem?_toArray] at h1 h2
  unfold mulC
  rw [List.getElem?_toArray, List.getElem?_append_left (by omega)]
  exact h1
theorem mulC_high (a : G8) {k : Nat} (h : k < 16) : (mulC a)[16 + k]? = some (.int .u8 ((sxG (mulG a 16#8) k).toNat : Int)) := by
  have h1 := stL_at (sxG (mulG a 16#8)) h h
  have h2 := stL_len (sxG a) 16
  simp only [List.size_toArray, List.getElem?_toArray] at h1 h2
  unfold mulC
  rw [List.getElem?_toArray, List.getElem?_append_right (by omega), show 16 + k - (stL (sxG a) 16).length = k by omega]
  exact h1
def six (f : Nat → G8) : Array Value := #[.int .u8 ((f 0).toNat : Int), .int .u8 ((f 1).toNat : Int), .int .u8 ((f 2).toNat : Int), .int .u8 ((f 3).toNat : Int), .int .u8 ((f 4).toNat : Int), .int .u8 ((f 5).toNat : Int), .int .u8 ((f 6).toNat : Int), .int .u8 ((f 7).toNat : Int), .int .u8 ((f 8).toNat : Int), .int .u8 ((f 9).toNat : Int), .int .u8 ((f 10).toNat : Int), .int .u8 ((f 11).toNat : Int), .int .u8 ((f 12).toNat : Int), .int .u8 ((f 13).toNat : Int), .int .u8 ((f 14).toNat : Int), .int .u8 ((f 15).toNat : Int)]
theorem six_stL (f : Nat → G8) : (stL f 16).toArray = six f := rfl
theorem six_two (f g : Nat → G8) : (stL f 16 ++ stL g 16).toArray = #[.int .u8 ((f 0).toNat : Int), .int .u8 ((f 1).toNat : Int), .int .u8 ((f 2).toNat : Int), .int .u8 ((f 3).toNat : Int), .int .u8 ((f 4).toNat : Int), .int .u8 ((f 5).toNat : Int), .int .u8 ((f 6).toNat : Int), .int .u8 ((f 7).toNat : Int), .int .u8 ((f 8).toNat : Int), .int .u8 ((f 9).toNat : Int), .int .u8 ((f 10).toNat : Int), .int .u8 ((f 11).toNat : Int), .int .u8 ((f 12).toNat : Int), .int .u8 ((f 13).toNat : Int), .int .u8 ((f 14).toNat : Int), .int .u8 ((f 15).toNat : Int), .int .u8 ((g 0).toNat : Int), .int .u8 ((g 1).toNat : Int), .int .u8 ((g 2).toNat : Int), .int .u8 ((g 3).toNat : Int), .int .u8 ((g 4).toNat : Int), .int .u8 ((g 5).toNat : Int), .int .u8 ((g 6).toNat : Int), .int .u8 ((g 7).toNat : Int), .int .u8 ((g 8).toNat : Int), .int .u8 ((g 9).toNat : Int), .int .u8 ((g 10).toNat : Int), .int .u8 ((g 11).toNat : Int), .int .u8 ((g 12).toNat : Int), .int .u8 ((g 13).toNat : Int), .int .u8 ((g 14).toNat : Int), .int .u8 ((g 15).toNat : Int)] := rfl
set_option maxRecDepth 100000 in
set_option maxHeartbeats 1000000 in
theorem multiples_any (w : World) (a : G8) : Calls Try.prog 62 #[.int .u8 (a.toNat : Int)] w fun e w' => ∃ mb, e = .returned (.pointer (some ⟨mb, 0, none⟩)) ∧ w.heap.size ≤ mb ∧ w'.heap[mb]? = some (.cells (mulC a) 94 (0, 0)) ∧ Below w.heap.size w w' := by
  have HS := Lib.hid (sixteen_any w a)
  have HM : Hid (∀ W : World, Calls Try.prog 19 #[.int .u8 (a.toNat : Int), .int .u8 16] W fun e w' => e = .returned (.int .u8 ((mulG a 16#8).toNat : Int)) ∧ W = w') := Lib.hid (fun W => mul_any W a 16#8)
  have HT : Hid (∀ W : World, Calls Try.prog 64 #[.int .u8 ((mulG a 16#8).toNat : Int)] W fun e w' => e = .returned (.agg (stL (sxG (mulG a 16#8)) 16).toArray) ∧ Below W.heap.size W w') := Lib.hid (fun W => sixteen_any W _)
  unfold mulC
  rw [six_two]
  rw [six_stL] at HS HT
  generalize sxG a = f at *
  generalize sxG (mulG a 16#8) = g at *
  generalize mulG a 16#8 = b at *
  unfold six at HS HT
  go_enter Try.func62, Try.ntmps62
  go_wp2_with fail
  refine HS.out.mono ?_
  rintro e w1 ⟨rfl, hb1⟩
  have HB1 := Lib.hid hb1
  clear hb1
  go_wp2_with fail
  refine (HM.out _).mono ?_
  rintro e w' ⟨rfl, rfl⟩
  go_wp2_with fail
  refine (HT.out _).mono ?_
  rintro e w2 ⟨rfl, hb2⟩
  have HB2 := Lib.hid (HB1.out.trans (hb2.mono HB1.out.size))
  clear hb2
  go_wp2_with fail
  go_ret
  exact ⟨w2.heap.size, rfl, HB2.out.size, heap_alloc_new w2 _, HB2.out.alloc HB2.out.size _⟩
theorem q_sameG {P : Program} {f : FuncId} {args : Array Value} {w : World} {n : Nat} {v : Value}
    (h : Calls P f args (w.drewN n) fun e w' => e = .returned v ∧ w.drewN n = w') : Calls P f args (w.drewN n) fun e w'' => e = .returned v ∧ ∃ m, w'' = w.drewN m :=
  h.mono fun _ _ ⟨he, hm⟩ => ⟨he, n, hm.symm⟩
set_option maxRecDepth 100000 in
set_option maxHeartbeats 1000000 in
theorem times_any (w : World) (mb : Nat) (a b : G8) (h : w.heap[mb]? = some (.cells (mulC a) 94 (0, 0))) :
    Calls Try.prog 63 #[.pointer (some ⟨mb, 0, none⟩), .int .u8 (b.toNat : Int)] w fun e w' => e = .returned (.int .u8 ((mulG a b).toNat : Int)) ∧ ∃ n, w' = w.drewN n := by
  have hb := b.isLt
  have c1 := cell_of h (mulC_low a (k := b.toNat % 16) (by omega))
  have c2 := cell_of h (mulC_high a (k := b.toNat / 16) (by omega))
  have hi1 : ∀ W, (Instr.indexAt 91 (.pointer (some ⟨mb, 0, none⟩)) (.int .u8 ((b.toNat : Int) % 16))).run Try.prog W = .ok (.pointer (some ⟨mb, b.toNat % 16, none⟩)) W := fun W => by
    have h := ix16 W .u8 mb 0 (b.toNat % 16) (by omega)
    rw [Int.natCast_emod, Nat.zero_add] at h
    exact h
  have hi2 : ∀ W, (Instr.indexAt 91 (.pointer (some ⟨mb, 16, none⟩)) (.int .u8 ((b.toNat : Int) / 16))).run Try.prog W = .ok (.pointer (some ⟨mb, 16 + b.toNat / 16, none⟩)) W := fun W => by
    have h := ix16 W .u8 mb 16 (b.toNat / 16) (by omega)
    rw [Int.natCast_ediv] at h
    exact h
  have HA : Hid (∀ W : World, Calls Try.prog 18 #[.int .u8 ((sxG a (b.toNat % 16)).toNat : Int), .int .u8 ((sxG (mulG a 16#8) (b.toNat / 16)).toNat : Int)] W fun e w' => e = .returned (.int .u8 ((mulG a b).toNat : Int)) ∧ W = w') := Lib.hid (fun W => by
    have h := add_any W (sxG a (b.toNat % 16)) (sxG (mulG a 16#8) (b.toNat / 16))
    rw [sx_both] at h
    exact h)
  generalize sxG a (b.toNat % 16) = x at *
  generalize sxG (mulG a 16#8) (b.toNat / 16) = y at *
  generalize mulG a b = z at *
  clear h
  go_enter Try.func63, Try.ntmps63
  go_wp2_with fail
  go_quiet ((go_at_call 18; exact q_sameG (HA.out _)))
  go_wp2_with fail
  go_ret
  exact ⟨rfl, _, rfl⟩
end Go.Proofs.Ytjojimmfjmchcaa
