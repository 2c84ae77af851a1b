/-
  A part of a slice of versions: cut ahead, cut behind, both; its run and how it reads.
-/
import Derived.Test.YteclnnjijfbfoaaEnB
import Derived.Test.YteclnnjijfbfoaaClR
namespace Go.Proofs.Yteclnnjijfbfoaa
open Go.RowKit

theorem SlT.run_lh {T E : TypeId} {s b : Nat} (t : SlT T E s b) (W : World) (p : Option Addr) (n cap i k : Nat) (hi : i ≤ k) (hk : k ≤ n) (hn : n ≤ cap) :
    (Instr.slice T (.slice p n cap) (some (.int .i64 (i : Int))) (some (.int .i64 (k : Int))) none).run Try.prog W = .ok (.slice (if cap = i then p else p.map (·.add (i * s))) (k - i) (cap - i)) W := by
  rw [run_slice_lh W T _ _ _ (by rw [t.elem]; exact t.under) .i64 .i64 _ _ (by omega) (by omega) (by omega), t.elem, t.size]
  simp only [Result.andThen, sliced]
  rw [show ((i : Int)).toNat = i from by omega, show ((k : Int)).toNat = k from by omega]
theorem Cl.cut {w : World} {F : Nat → Prop} {p : Option Addr} {n cap i k s : Nat} {xs : List Value} (h : Cl w F (.slice p n cap) n xs) (hi : i ≤ k) (hk : k ≤ n) :
    Cl w F (.slice (if cap = i then p else p.map (·.add (i * s))) (k - i) (cap - i)) (k - i) ((xs.drop (i * s)).take ((k - i) * s)) := by
  obtain ⟨p', cap', e, h1, h2, h3, h4, h5⟩ := h
  injection e with e1 e2 e3
  subst e1 e3
  refine ⟨_, _, rfl, by omega, by omega, by omega, fun hp => ?_, fun j x hj => ?_⟩
  · split at hp
    · omega
    · have : p = none := by
        cases p with
        | none => rfl
        | some a => cases hp
      have := h4 this
      omega
  · have hl := (List.getElem?_eq_some_iff.1 hj).1
    rw [List.length_take] at hl
    have hlt : i < k := by
      rcases Nat.lt_or_ge i k with h | h
      · exact h
      · rw [Nat.sub_eq_zero_of_le h, Nat.zero_mul] at hl
        omega
    rw [List.getElem?_take_of_lt (by omega), List.getElem?_drop] at hj
    obtain ⟨g, off, rfl, hlt, hF, hc⟩ := h5 _ x hj
    refine ⟨g, off + i * s, ?_, hlt, hF, by rw [Nat.add_assoc]; exact hc⟩
    rw [if_neg (by omega)]
    simp [Addr.add_mid]
/-- A part: from i to k. -/
theorem En.cut {w : World} {F : Nat → Prop} {p : Option Addr} {n cap i k : Nat} {es : List Ent} (h : En w F (.slice p n cap) es) (hi : i ≤ k) (hk : k ≤ es.length) :
    ∃ q c, En w F (.slice q (k - i) c) ((es.drop i).take (k - i)) ∧ ((es.drop i).take (k - i)).length = k - i ∧ ∀ W, (Instr.slice 26 (.slice p n cap) (some (.int .i64 (i : Int))) (some (.int .i64 (k : Int))) none).run Try.prog W = .ok (.slice q (k - i) c) W := by
  obtain ⟨p', cap', e, h1, h2, h3, h4⟩ := h.form
  injection e with e1 e2 e3
  subst e1 e2 e3
  obtain ⟨us, hu⟩ := h
  have hlen : ((es.drop i).take (k - i)).length = k - i := by rw [List.length_take, List.length_drop]; omega
  have hcl := hu.cl.cut (s := 4) hi hk
  have hc : (((cellsE es us).drop (i * 4)).take ((k - i) * 4)) = cellsE ((es.drop i).take (k - i)) ((us.drop i).take (k - i)) := by
    rw [cellsE_drop _ _ hu.len _ (by omega), cellsE_take _ _ (by rw [List.length_drop, List.length_drop, hu.len]) _ (by rw [List.length_drop]; omega)]
  rw [hc] at hcl
  refine ⟨_, _, ⟨(us.drop i).take (k - i), by rw [hlen, List.length_take, List.length_drop, hu.len]; omega, by rw [hlen]; exact hcl, fun j e u he hu2 => ?_⟩, hlen, fun W => slEnt.run_lh W p _ cap i k hi hk h1⟩
  have hj := (List.getElem?_eq_some_iff.1 he).1
  rw [hlen] at hj
  rw [List.getElem?_take_of_lt hj, List.getElem?_drop] at he hu2
  exact hu.val _ e u he hu2
/-- What stands from i on. -/
theorem En.from_ {w : World} {F : Nat → Prop} {p : Option Addr} {n cap i : Nat} {es : List Ent} (h : En w F (.slice p n cap) es) (hi : i ≤ es.length) :
    ∃ q c, En w F (.slice q (es.length - i) c) (es.drop i) ∧ ∀ W, (Instr.slice 26 (.slice p n cap) (some (.int .i64 (i : Int))) none none).run Try.prog W = .ok (.slice q (es.length - i) c) W := by
  obtain ⟨p', cap', e, h1, h2, h3, h4⟩ := h.form
  injection e with e1 e2 e3
  subst e1 e2 e3
  obtain ⟨us, hu⟩ := h
  obtain ⟨v', hcl, hrun⟩ := slEnt.drop hu.cl (cellsE_length es us hu.len) hi
  obtain ⟨q, c, rfl, _⟩ := hcl.form
  rw [cellsE_drop _ _ hu.len _ hi] at hcl
  refine ⟨q, c, ⟨us.drop i, by rw [List.length_drop, List.length_drop, hu.len], by rw [List.length_drop]; exact hcl, fun j e u he hu2 => ?_⟩, hrun⟩
  rw [List.getElem?_drop] at he hu2
  exact hu.val _ e u he hu2
/-- The first k. -/
theorem En.to_ {w : World} {F : Nat → Prop} {p : Option Addr} {n cap k : Nat} {es : List Ent} (h : En w F (.slice p n cap) es) (hk : k ≤ es.length) :
    ∃ q c, En w F (.slice q k c) (es.take k) ∧ ∀ W, (Instr.slice 26 (.slice p n cap) none (some (.int .i64 (k : Int))) none).run Try.prog W = .ok (.slice q k c) W := by
  obtain ⟨p', cap', e, h1, h2, h3, h4⟩ := h.form
  injection e with e1 e2 e3
  subst e1 e2 e3
  obtain ⟨us, hu⟩ := h
  obtain ⟨v', hcl, hrun⟩ := slEnt.take hu.cl (cellsE_length es us hu.len) hk
  obtain ⟨q, c, rfl, _⟩ := hcl.form
  rw [cellsE_take _ _ hu.len _ hk] at hcl
  have hlen : (es.take k).length = k := by rw [List.length_take]; omega
  refine ⟨q, c, ⟨us.take k, by rw [List.length_take, List.length_take, hu.len], by rw [hlen]; exact hcl, fun j e u he hu2 => ?_⟩, hrun⟩
  have hj := (List.getElem?_eq_some_iff.1 he).1
  rw [hlen] at hj
  rw [List.getElem?_take_of_lt hj] at he hu2
  exact hu.val _ e u he hu2
end Go.Proofs.Yteclnnjijfbfoaa
