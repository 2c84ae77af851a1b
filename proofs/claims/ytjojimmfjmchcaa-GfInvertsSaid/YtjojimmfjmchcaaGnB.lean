/-
  The walk over gf.addTimes: a row's multiple is added to a row of the call's own, which may be the same one.
-/
import Derived.Test.YtjojimmfjmchcaaGnA
import Derived.Deep.RegionLaw
namespace Go.Proofs.Ytjojimmfjmchcaa
open Go.RowKit

/-- The first j elements of a row with a multiple of another added. -/
def addF (by_ : G8) (f g : Nat → G8) (j : Nat) : Nat → G8 := fun k => if k < j then g k ^^^ mulG by_ (f k) else g k
theorem addF_zero (b : G8) (f g : Nat → G8) : addF b f g 0 = g := by
  funext k
  unfold addF
  rw [if_neg (by omega)]
theorem addF_all (b : G8) (f g : Nat → G8) (n : Nat) : rowM n (addF b f g n) = rowM n (fun k => g k ^^^ mulG b (f k)) := rowM_congr fun k hk => by
  unfold addF
  rw [if_pos hk]
theorem addF_set (b : G8) (f g : Nat → G8) (n j : Nat) : (rowM n (addF b f g j)).set j (UInt8.ofBitVec (g j ^^^ mulG b (f j))) = rowM n (addF b f g (j + 1)) := by
  rw [rowM_set]
  refine rowM_congr fun k hk => ?_
  unfold upF addF
  by_cases h : k = j
  · subst h
    rw [if_pos rfl, if_pos (by omega)]
  · rw [if_neg h]
    by_cases h2 : k < j
    · rw [if_pos h2, if_pos (by omega)]
    · rw [if_neg h2, if_neg (by omega)]
theorem addF_at (b : G8) (f g : Nat → G8) (j : Nat) : addF b f g j j = g j := by
  unfold addF
  rw [if_neg (by omega)]

theorem cell_set_ne {w : World} {b i j : Nat} {v : Value} (h : j ≠ i) : (w.setCell ⟨b, i, none⟩ v).cell? ⟨b, j, none⟩ = w.cell? ⟨b, j, none⟩ := by
  simp only [World.cell?, World.setCell, Array.getElem?_modify]
  cases w.heap[b]? with
  | none => rfl
  | some o =>
    cases o with
    | cells c t z => simp [Array.getElem?_setIfInBounds_ne (Ne.symm h)]
    | _ => rfl
set_option maxRecDepth 100000 in
set_option maxHeartbeats 2000000 in
theorem addTimes_any (w : World) (bt ct n bf of cf : Nat) (b : G8) (f g : Nat → G8) (ho : Own w 0 (.slice (some ⟨bt, 0, none⟩) n ct) (rowM n g)) (hlf : bf < w.heap.size) (hcf : n ≤ cf) (hn : n ≤ 1048576)
    (hf : ∀ j, j < n → w.cell? ⟨bf, of + j, none⟩ = some (.int .u8 ((f j).toNat : Int))) (hsep : bf ≠ bt ∨ of = 0) :
    Calls Try.prog 59 #[.slice (some ⟨bt, 0, none⟩) n ct, .slice (some ⟨bf, of, none⟩) n cf, .int .u8 (b.toNat : Int)] w fun e w' => e = .returned (.tuple #[]) ∧ Own w' 0 (.slice (some ⟨bt, 0, none⟩) n ct) (rowM n fun k => g k ^^^ mulG b (f k)) ∧ Fr (fun k => k = bt) w w' := by
  have q0 := nat_eq0 b
  have HO := Lib.hid ho
  have hbt : bt < w.heap.size := own_lt ho rfl
  go_enter Try.func59, Try.ntmps59
  by_cases h0 : b = 0#8
  · rw [decide_eq_true h0] at q0
    have HB0 := Lib.hid h0
    clear h0 ho
    go_wp2_with fail
    refine Go.bodyPost_ret (Go.results_none rfl _ _ _) rfl ?_
    refine ⟨rfl, ?_, Fr.refl _ _⟩
    have h := HO.out
    rw [rowM_congr (g' := fun k => g k ^^^ mulG b (f k)) fun j _ => by rw [HB0.out, zero_mul, BitVec.xor_zero]] at h
    exact h
  · rw [decide_eq_false h0] at q0
    clear h0 ho
    have HF := Lib.hid hf
    have HM := Lib.hid (multiples_any w b)
    clear hf
    go_wp2_with fail
    refine HM.out.mono ?_
    rintro e w1 ⟨mb, rfl, hmb, hm1, hb1⟩
    have HM1 := Lib.hid hm1
    have HB1 := Lib.hid hb1
    have HSz := Lib.hid hb1.size
    clear hm1 hb1
    go_wp2_with fail
    go_loopw [15] (fun i wr => ∃ j : Nat, j ≤ n ∧ i = .int .i64 (j : Int) ∧ Own wr 0 (.slice (some ⟨bt, 0, none⟩) n ct) (rowM n (addF b f g j)) ∧ wr.heap[mb]? = some (.cells (mulC b) 94 (0, 0)) ∧ (∀ k, j ≤ k → k < n → wr.cell? ⟨bf, of + k, none⟩ = some (.int .u8 ((f k).toNat : Int))) ∧ Fr (fun k => k = bt) w wr) (fun i _ => n - (intOf i).toNat)
    case atStart => exact ⟨0, by omega, rfl, by rw [addF_zero]; exact HO.out.after HB1.out, HM1.out, fun k _ hk => (below_cells HB1.out bf _ hlf).trans (HF.out k hk), Fr.of_new HB1.out _⟩
    case round =>
      obtain ⟨j, hj, rfl, ho, hm, hc, hfr⟩ := hrel
      have HO2 := Lib.hid ho
      have HM2 := Lib.hid hm
      have HC := Lib.hid hc
      have HFr := Lib.hid hfr
      by_cases hlt : j < n
      · have d1 : decide ((j : Int) < (n : Int)) = true := decide_eq_true (by omega)
        have d2 : decide (j < n) = true := decide_eq_true hlt
        have c1 := hc j (Nat.le_refl _) hlt
        obtain ⟨c2, f2⟩ := own_cell ho (i := j) (by rw [rowM_len]; exact hlt)
        rw [rowM_nat hlt, addF_at] at c2
        have HT : Hid (∀ W : World, W.heap[mb]? = some (.cells (mulC b) 94 (0, 0)) → Calls Try.prog 63 #[.pointer (some ⟨mb, 0, none⟩), .int .u8 ((f j).toNat : Int)] W fun e w' => e = .returned (.int .u8 ((mulG b (f j)).toNat : Int)) ∧ ∃ n, w' = W.drewN n) := Lib.hid (fun W h => times_any W mb b (f j) h)
        have HA : Hid (∀ W : World, Calls Try.prog 18 #[.int .u8 ((g j).toNat : Int), .int .u8 ((mulG b (f j)).toNat : Int)] W fun e w' => e = .returned (.int .u8 ((g j ^^^ mulG b (f j)).toNat : Int)) ∧ W = w') := Lib.hid (fun W => add_any W _ _)
        have HSet := Lib.hid (addF_set b f g n j)
        clear ho hm hc hfr
        obtain ⟨ov, hov⟩ : ∃ ov, w1.heap.size = ov := ⟨_, rfl⟩
        generalize g j ^^^ mulG b (f j) = z at *
        generalize mulG b (f j) = y at *
        generalize hgj : g j = x at *
        generalize hfj : f j = u at *
        clear hgj hfj hov
        go_wp2_with fail
        go_region_law (first
          | (go_simp; go_at_call 63
             refine (HT.out _ (by exact HM2.out)).mono ?_
             rintro r wt ⟨rfl, nt, rfl⟩)
          | (go_simp; go_at_call 18
             refine (HA.out _).mono ?_
             rintro r wt ⟨rfl, rfl⟩))
        all_goals
          go_wp2_with fail
          have hfs : Fr (fun k => k = bt) wr ((wr.drewN (1 + nt)).setCell ⟨bt, j, none⟩ (.int .u8 (z.toNat : Int))) := ((Fr.refl _ wr).drewN (1 + nt)).then (Fr.setCell (fun k => k = bt) (wr.drewN (1 + nt)) (p := ⟨bt, j, none⟩) rfl _)
          refine ⟨⟨j + 1, by omega, by go_num, ?_, ?_, fun k hk1 hk2 => ?_, HFr.out.then hfs⟩, by simp [intOf]; omega⟩
          · have h := own_set (i := j) (HO2.out.after (below_drewN (Below.refl _ _) (1 + nt))) (UInt8.ofBitVec z)
            rw [HSet.out] at h
            exact h
          · exact (hfs.block mb (block_lt HM2.out) (by omega)).trans HM2.out
          · have h := HC.out k (by omega) hk2
            rw [← h]
            by_cases hb : bf = bt
            · subst hb
              have h0 : of = 0 := hsep.resolve_left (fun e => e rfl)
              subst h0
              show ((wr.drewN (1 + nt)).setCell _ _).cell? _ = (wr.drewN (1 + nt)).cell? _
              exact cell_set_ne (by omega)
            · exact World.cell?_of_block (hfs.block bf (Nat.lt_of_lt_of_le hlf HFr.out.size) hb)
      · obtain rfl : j = n := by omega
        clear ho hm hc hfr
        go_wp2_with fail
        go_end0
        exact ⟨rfl, by rw [← addF_all]; exact HO2.out, HFr.out⟩
end Go.Proofs.Ytjojimmfjmchcaa
