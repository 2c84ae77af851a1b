/-
  The walk over NetPlays.
-/
import Derived.Test.YtiffoafjgcjgoaaStpL
import Derived.Test.YtiffoafjgcjgoaaLnkN
namespace Go.Proofs.Ytiffoafjgcjgoaa
open Go.RowKit

/-- Two nets alike, ahead of round k. -/
structure GoN (k : Nat) (W w : World) (nb rb : Nat) (N : PNet) : Prop where
  pair : Pair (fun j => W.heap.size ≤ j) w nb rb N N
  below : Below W.heap.size W w
  now : N.now ≤ k

set_option maxRecDepth 100000 in
set_option maxHeartbeats 8000000 in
theorem plays_any (W : World) (z b : Int) (v1 : Value) (xs : List PAct) (h1 : RdA W (fun _ => False) v1 xs) (hfit : ∀ x ∈ xs, FitA x) (hxl : xs.length ≤ 1048576) :
    Calls Try.prog 3 #[.int .i64 z, .int .i64 b, v1] W fun e w' => e = .returned (.bool true) ∧ Below W.heap.size W w' := by
  have HR0 := Lib.hid h1
  have HFit := Lib.hid hfit
  obtain ⟨p0, cap0, rfl, hc0, hl0, hm0⟩ := h1.form
  clear h1 hfit
  go_enter Try.func3, Try.ntmps3
  go_wp2_with fail
  refine (known_any W).mono ?_
  rintro e w0 ⟨rfl, hb0⟩
  have HB0 := Lib.hid hb0
  clear hb0
  go_wp2_with fail
  refine (few_any w0 (fun j => W.heap.size ≤ j) _ xs (HR0.out.lift HB0.out (Nat.le_refl _))).mono ?_
  rintro e w0' ⟨⟨r, rfl⟩, n0, rfl⟩
  rcases r with _ | _
  · go_wp2_with fail
    go_ret
    exact ⟨rfl, below_drewN HB0.out _⟩
  · go_wp2_with fail
    generalize hw1 : World.drewN w0 n0 = w1
    have HB1 : Hid (Below W.heap.size W w1) := Lib.hid (by rw [← hw1]; exact below_drewN HB0.out _)
    clear hw1
    by_cases hz : z < 1 ∨ 16 < z ∨ b < 1 ∨ 65536 < b
    · refine (new_bad w1 z b hz).mono ?_
      rintro e w2 ⟨rfl, rfl⟩
      go_wp2_with fail
      refine (rnew_bad w1 z b hz).mono ?_
      rintro e w2 ⟨rfl, rfl⟩
      go_wp2_with fail
      go_ret
      exact ⟨rfl, HB1.out⟩
    · obtain ⟨n, rfl⟩ : ∃ n : Nat, z = (n : Int) := ⟨z.toNat, by omega⟩
      obtain ⟨m, rfl⟩ : ∃ m : Nat, b = (m : Int) := ⟨b.toNat, by omega⟩
      refine (new_any w1 n m (by omega) (by omega) (by omega) (by omega)).mono ?_
      rintro e w2 ⟨nb, rfl, hnb, hd2, hb2⟩
      have HD2 := Lib.hid hd2
      have HB2 := Lib.hid hb2
      clear hd2 hb2
      go_wp2_with fail
      refine (rnew_any w2 n m (by omega) (by omega) (by omega) (by omega)).mono ?_
      rintro e w3 ⟨rfl, hr3, hb3⟩
      have hs1 := HB1.out.size
      have hs2 := HB2.out.size
      have HG3 : Hid (GoN 0 W w3 nb w2.heap.size ⟨n, m, 0, []⟩) := Lib.hid ⟨⟨fun k => w1.heap.size ≤ k ∧ k < w2.heap.size, fun k => w2.heap.size ≤ k, (HD2.out.mono (S' := fun k => w1.heap.size ≤ k ∧ k < w2.heap.size) fun k hk hs => ⟨hs, hk⟩).after hb3, hr3, fun k hk => ⟨Nat.le_trans hs1 hk.1, fun hle => by have := hk.2; omega⟩, fun k hk => Nat.le_trans hs1 (Nat.le_trans hs2 hk)⟩, (HB1.out.trans (HB2.out.mono hs1)).trans (hb3.mono (Nat.le_trans hs1 hs2)), Nat.le_refl _⟩
      clear hr3 hb3
      go_wp2_with fail
      go_loopw [11] (fun i wr => ∃ (k : Nat) (N : PNet), k ≤ xs.length ∧ i = .int .i64 (k : Int) ∧ Hid (GoN k W wr nb w2.heap.size N)) (fun i _ => xs.length - (intOf i).toNat)
      case atStart => exact ⟨0, _, by omega, rfl, HG3⟩
      case round =>
        obtain ⟨k, N, hk, rfl, HG⟩ := hrel
        by_cases hlt : k < xs.length
        · obtain ⟨b, off, tv, bv, rfl, hb, hS, hA, d0, d1, d2, d3, d4, d5⟩ := (HR0.out.lift HG.out.below (Nat.le_refl _)).at_ (List.getElem?_eq_getElem hlt)
          have hx := HFit.out xs[k] (List.getElem_mem hlt)
          generalize xs[k] = x at *
          have hnow := HG.out.now
          have HS := Lib.hid (step_any wr _ nb w2.heap.size N HG.out.pair tv bv x hA hx (by omega))
          obtain ⟨⟨p1, c1, rfl, _, _, _⟩, p2, c2, rfl, _, _, _⟩ := hA.form
          unfold actV at HS
          have HNw := Lib.hid (act_now N x)
          clear hA hx
          go_wp2_with fail
          refine HS.out.mono ?_
          rintro e w6 ⟨rfl, hp6, hf6⟩
          have hP6 : Pair (fun j => W.heap.size ≤ j) w6 nb w2.heap.size (act N x) (act N x) := hp6.mono fun j _ hs => hs.elim id (fun hle => Nat.le_trans HG.out.below.size hle)
          have hB6 : Below W.heap.size W w6 := HG.out.below.trans (hf6.below HG.out.below.size (fun j hj hle => by omega))
          have HL := Lib.hid (lnk_any w6 _ _ nb w2.heap.size (act N x) hP6.one hP6.two)
          have HP6 := Lib.hid hP6
          have HB6 := Lib.hid hB6
          clear hp6 hf6 hP6 hB6 HS
          go_wp2_with fail
          refine HL.out.mono ?_
          rintro e w7 ⟨rfl, hb7⟩
          have HG7 : Hid (GoN (k + 1) W w7 nb w2.heap.size (act N x)) := Lib.hid ⟨HP6.out.below hb7, HB6.out.trans (hb7.mono HB6.out.size), by have := HNw.out; omega⟩
          clear hb7
          go_wp2_with fail
          go_roundw
          case rel => exact ⟨k + 1, _, by omega, by go_num, HG7⟩
          case measure => simp [intOf]; omega
        · go_wp2_with fail
          go_ret
          exact ⟨rfl, HG.out.below⟩
end Go.Proofs.Ytiffoafjgcjgoaa
