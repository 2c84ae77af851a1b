/-
  The walks over sort.Search, merge.newest and its closure: where the newest version up to a number stands among those of one key.
-/
import Derived.Test.YtagehnclkneolaaGreatDoorMgB
import Derived.Test.YtagehnclkneolaaGreatDoorMgC
namespace Go.Proofs.YtagehnclkneolaaGreatDoor
open Go.RowKit

set_option maxRecDepth 100000 in
set_option maxHeartbeats 2000000 in
theorem srt_search (w : World) (g : Nat) (lb : Array Value) (n m : Nat) (hm : m ≤ n) (hn : n ≤ 1048576)
    (hf : ∀ V, Below w.heap.size w V → ∀ i, i < n → Calls Tryz.prog g (#[.int .i64 (i : Int)] ++ lb) V fun e V' => e = .returned (.bool (decide (m ≤ i))) ∧ Below V.heap.size V V')
    (eg : ∀ args W, (callFunc g args).run Tryz.prog W = .ok (.enter g args) W) :
    Calls Tryz.prog 64 #[.int .i64 (n : Int), .func (.func g) #[] lb] w fun e w' => e = .returned (.int .i64 (m : Int)) ∧ Below w.heap.size w w' := by
  have HF := Lib.hid hf
  clear hf
  go_enter Tryz.func64, Tryz.ntmps64
  go_wp2_with fail
  go_loopw [5, 6] (fun s5 s6 wr => ∃ lo hi : Nat, s5 = .int .i64 (lo : Int) ∧ s6 = .int .i64 (hi : Int) ∧ lo ≤ m ∧ m ≤ hi ∧ hi ≤ n ∧ Below w.heap.size w wr) (fun s5 s6 _ => (intOf s6 - intOf s5).toNat)
  case atStart => exact ⟨0, n, rfl, rfl, by omega, hm, Nat.le_refl _, Below.refl _ _⟩
  case round =>
    obtain ⟨lo, hi, rfl, rfl, h1, h2, h3, hb⟩ := hrel
    have HB := Lib.hid hb
    clear hb
    by_cases hlt : lo < hi
    · have hc := HF.out wr HB.out ((lo + hi) / 2) (by omega)
      rw [show (((lo + hi) / 2 : Nat) : Int) = ((lo : Int) + (hi : Int)) / 2 by omega] at hc
      have HC := Lib.hid hc
      clear hc
      by_cases hp : m ≤ (lo + hi) / 2
      · have hd : decide (m ≤ (lo + hi) / 2) = true := decide_eq_true hp
        rw [hd] at HC
        clear hd
        go_wp2_with (go_at_fn g; refine HC.out.mono ?_; rintro e w1 ⟨rfl, hb1⟩; have HB1 := Lib.hid hb1; clear hb1)
        go_roundw
        case rel => exact ⟨lo, (lo + hi) / 2, rfl, by go_num, h1, hp, by omega, HB.out.trans (HB1.out.mono HB.out.size)⟩
        case measure => simp [intOf]; omega
      · have hd : decide (m ≤ (lo + hi) / 2) = false := decide_eq_false hp
        rw [hd] at HC
        clear hd
        go_wp2_with (go_at_fn g; refine HC.out.mono ?_; rintro e w1 ⟨rfl, hb1⟩; have HB1 := Lib.hid hb1; clear hb1)
        go_roundw
        case rel => exact ⟨(lo + hi) / 2 + 1, hi, by go_num, rfl, by omega, h2, h3, HB.out.trans (HB1.out.mono HB.out.size)⟩
        case measure => simp [intOf]; omega
    · obtain rfl : lo = m := by omega
      obtain rfl : hi = lo := by omega
      go_wp2_with fail
      go_ret
      exact ⟨rfl, HB.out⟩

/-- Up to a number or not: so stand the versions of one key. -/
theorem newN_at {up : Nat} {p : List Ent} (hs : SrtE p) (hk : ∀ x ∈ p, ∀ y ∈ p, x.key = y.key) {i : Nat} (hi : i < p.length) : decide (newN up p ≤ i) = decide (p[i].seq ≤ up) := by
  rcases Nat.lt_or_ge i (newN up p) with h | h
  · have h1 := newN_lo h hi
    rw [decide_eq_false (by omega), decide_eq_false (by omega)]
  · have hn : newN up p < p.length := by omega
    have h1 := newN_hi hn
    have h2 : p[i].seq ≤ up := by
      rcases Nat.eq_or_lt_of_le h with e | h3
      · have : p[newN up p].seq = p[i].seq := by simp only [e]
        omega
      · have := srt_seq hs hk hi h3
        omega
    rw [decide_eq_true h, decide_eq_true h2]

end Go.Proofs.YtagehnclkneolaaGreatDoor
