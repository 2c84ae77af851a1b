/-
  For WalSpans, plainly: the segments' numbers of payloads in order, how many lie below a number; and the tail of a slice of slices of bytes.
-/
import Derived.Test.YtlbfgkocpjlamaaGreatDoorWlV
import Derived.Test.YtlbfgkocpjlamaaGreatDoorCC
namespace Go.Proofs.YtlbfgkocpjlamaaGreatDoor
open Go.RowKit

/-- The segment's number of each payload. -/
def insF : Nat → List (List (List UInt8)) → List Nat
  | _, [] => []
  | n, x :: r => List.replicate x.length n ++ insF (n + 1) r
theorem insF_length : ∀ (n : Nat) (L : List (List (List UInt8))), (insF n L).length = L.flatten.length
  | _, [] => rfl
  | n, x :: r => by
    have := insF_length (n + 1) r
    simp only [insF, List.length_append, List.length_replicate, List.flatten_cons, this]
theorem insF_snoc : ∀ (n : Nat) (L : List (List (List UInt8))) (c : List (List UInt8)), insF n (L ++ [c]) = insF n L ++ List.replicate c.length (n + L.length)
  | n, [], c => by simp [insF]
  | n, x :: r, c => by
    have := insF_snoc (n + 1) r c
    simp only [List.cons_append, insF, this, List.append_assoc, List.length_cons]
    rw [show n + 1 + r.length = n + (r.length + 1) by omega]
theorem insF_more (L : List (List (List UInt8))) (c : List (List UInt8)) (l : List UInt8) : insF 0 (L ++ [c ++ [l]]) = insF 0 (L ++ [c]) ++ [L.length] := by
  rw [insF_snoc, insF_snoc, List.length_append, List.length_singleton, List.replicate_succ', Nat.zero_add, List.append_assoc]
theorem insF_turn (L : List (List (List UInt8))) : insF 0 (L ++ [[]]) = insF 0 L := by
  rw [insF_snoc]
  simp
theorem insF_below : ∀ (n : Nat) (L : List (List (List UInt8))) (b k x : Nat), (insF n L)[k]? = some x → (x < n + b ↔ k < (L.take b).flatten.length)
  | _, [], _, _, _, h => by simp [insF] at h
  | n, y :: r, 0, k, x, h => by
    have hx : n ≤ x := by
      have hm := List.mem_of_getElem? h
      have : ∀ (n : Nat) (L : List (List (List UInt8))) (x : Nat), x ∈ insF n L → n ≤ x := by
        intro n L
        induction L generalizing n with
        | nil => intro x hx; simp [insF] at hx
        | cons y r ih =>
          intro x hx
          rcases List.mem_append.1 hx with hx | hx
          · have := List.eq_of_mem_replicate hx
            omega
          · have := ih (n + 1) x hx
            omega
      exact this _ _ _ hm
    simp
    omega
  | n, y :: r, b + 1, k, x, h => by
    simp only [insF] at h
    simp only [List.take_succ_cons, List.flatten_cons, List.length_append]
    rcases Nat.lt_or_ge k y.length with hk | hk
    · rw [List.getElem?_append_left (by simpa using hk), List.getElem?_replicate, if_pos hk] at h
      obtain rfl := Option.some.inj h
      constructor <;> omega
    · rw [List.getElem?_append_right (by simpa using hk), List.length_replicate] at h
      have := insF_below (n + 1) r b (k - y.length) x h
      constructor
      · intro h1
        have := this.1 (by omega)
        omega
      · intro h1
        have := this.2 (by omega)
        omega
theorem flat_drop (old : List (List (List UInt8))) (cur ls : List (List UInt8)) (b : Nat) (hb : b ≤ old.length) (h : old.flatten ++ cur = ls) :
    ls.drop ((old ++ [cur]).take b).flatten.length = (old.drop b).flatten ++ cur := by
  subst h
  rw [List.take_append_of_le_length hb]
  have e : old.flatten ++ cur = (old.take b).flatten ++ ((old.drop b).flatten ++ cur) := by
    rw [← List.append_assoc, ← List.flatten_append, List.take_append_drop]
  rw [e, List.drop_left]
theorem flat_take_le (L : List (List (List UInt8))) (b : Nat) : (L.take b).flatten.length ≤ L.flatten.length := by
  conv => rhs; rw [← List.take_append_drop b L, List.flatten_append, List.length_append]
  omega
theorem frames_sum : ∀ (old : List (List (List UInt8))) (cur : List (List UInt8)), (old.map fun ls => (frames ls).length).sum + (frames cur).length = (frames (old.flatten ++ cur)).length
  | [], cur => by simp
  | x :: r, cur => by
    have := frames_sum r cur
    simp only [List.map_cons, List.sum_cons, List.flatten_cons, List.append_assoc]
    rw [frames_append x, List.length_append]
    omega
theorem nums_filter (n b : Nat) (h : b ≤ n) : (nums 0 n).filter (inR 0 (b : Int)) = nums 0 b := by
  have e : nums 0 n = nums 0 b ++ nums b (n - b) := by
    unfold nums
    have := List.range'_append_1 (s := 0) (m := b) (n := n - b)
    rw [Nat.zero_add, show b + (n - b) = n by omega] at this
    exact this.symm
  rw [e, List.filter_append, List.filter_eq_self.2 fun x hx => ?_, List.filter_eq_nil_iff.2 fun x hx => ?_, List.append_nil]
  · have := mem_nums hx
    simp [inR]
    omega
  · have := mem_nums hx
    simp [inR]
    omega
theorem nums_head (a k : Nat) : (nums a (k + 1)).headD 0 = a := by simp [nums, List.range'_succ]

/-! ### l[n:] of a slice of slices -/
theorem sizeSl (w : World) : (Go.sizeOf 41).run Tryz.prog w = .ok 1 w := by kernel_rfl
theorem elemLists : Tryz.prog.elem 31 = 41 := by simp [Program.elem, Tryz.underlying31]
theorem underLists : Tryz.prog.underlying 31 = some (.slice (Tryz.prog.elem 31)) := by rw [elemLists]; exact Tryz.underlying31
theorem RdL.drop {W : World} {B n cap : Nat} {p : Option Addr} {ls : List (List UInt8)} (h : RdL W B (.slice p ls.length cap) ls) (hn : n ≤ ls.length) :
    RdL W B (.slice (if cap = n then p else p.map (·.add n)) (ls.length - n) (cap - n)) (ls.drop n) := by
  obtain ⟨p', cap', e, h1, h2, h3, h4⟩ := h
  injection e with e1 _ e2
  subst e1 e2
  refine ⟨_, _, by rw [List.length_drop], by rw [List.length_drop]; omega, by rw [List.length_drop]; omega, by omega, fun k l hk => ?_⟩
  rw [List.getElem?_drop] at hk
  obtain ⟨b, off, u, ep, hb, hc, hr⟩ := h4 _ l hk
  have hlt := (List.getElem?_eq_some_iff.1 hk).1
  subst ep
  refine ⟨b, off + n, u, ?_, hb, ?_, hr⟩
  · rw [if_neg (by omega)]
    simp [Addr.add_mid]
  · rw [show off + n + k = off + (n + k) from by omega]
    exact hc
theorem tail_rows {W0 : World} {B n : Nat} {p : Option Addr} {cap : Nat} {ls : List (List UInt8)} (h : RdL W0 B (.slice p ls.length cap) ls) (hn : n ≤ ls.length) :
    ∃ p' cap', RdL W0 B (.slice p' (ls.length - n) cap') (ls.drop n) ∧
      ∀ W, (Instr.slice 31 (.slice p ls.length cap) (some (.int .i64 (n : Int))) none none).run Tryz.prog W = .ok (.slice p' (ls.length - n) cap') W := by
  have hr := h.drop hn
  obtain ⟨_, _, e, hlc, _, _⟩ := id h
  injection e with _ _ e2
  refine ⟨_, _, hr, fun W => ?_⟩
  rw [run_slice_l W 31 _ _ _ underLists .i64 _ (by omega) (by omega), elemLists, sizeSl]
  simp only [Result.andThen, sliced, Nat.mul_one]
  rw [show ((n : Int)).toNat = n from by omega]
end Go.Proofs.YtlbfgkocpjlamaaGreatDoor
