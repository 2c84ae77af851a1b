/-
  Slices told by their cells, of elements of any size: cut ahead, cut behind; append onto a row of the call's own, from any slice.
-/
import Derived.Test.YtjojimmfjmchcaaEnM
namespace Go.Proofs.Ytjojimmfjmchcaa
open Go.RowKit

/-- A slice type T of elements E, s cells each, b bytes. -/
structure SlT (T E : TypeId) (s b : Nat) : Prop where
  under : Try.prog.underlying T = some (.slice E)
  elem : Try.prog.elem T = E
  size : ∀ W, (Go.sizeOf E).run Try.prog W = .ok s W
  info : ∃ z : Value, (Try.prog.info? E).map (fun i => (i.zero, i.size, i.bytes)) = some (some z, s, b) ∧ z.cells.size = s
  pos : 0 < s
  few : b ≤ 1024

section
variable {w w' : World} {F : Nat → Prop} {v u : Value} {n m s b k : Nat} {xs ys : List Value} {T E : TypeId}
theorem SlT.run_h (t : SlT T E s b) (W : World) (p : Option Addr) (cap : Nat) (hk : k ≤ n) (hn : n ≤ cap) : (Instr.slice T (.slice p n cap) none (some (.int .i64 (k : Int))) none).run Try.prog W = .ok (.slice p k cap) W := by
  rw [run_slice_h W T _ _ _ (by rw [t.elem]; exact t.under) .i64 _ (by omega) (by omega), t.elem, t.size]
  simp only [Result.andThen, sliced]
  rw [show ((k : Int)).toNat = k from by omega]
  by_cases hc : cap = 0
  · rw [if_pos hc]; simp
  · rw [if_neg hc]
    cases p with
    | none => simp
    | some a => cases a; simp [Addr.add]
theorem SlT.take (t : SlT T E s b) (h : Cl w F v n xs) (hx : xs.length = n * s) (hk : k ≤ n) :
    ∃ v', Cl w F v' k (xs.take (k * s)) ∧ ∀ W, (Instr.slice T v none (some (.int .i64 (k : Int))) none).run Try.prog W = .ok v' W := by
  obtain ⟨p, cap, rfl, h1, h2, h3, h4, h5⟩ := h
  refine ⟨.slice p k cap, ⟨p, cap, rfl, by omega, by omega, h3, h4, fun j x hj => h5 j x ?_⟩, fun W => t.run_h W p cap hk h1⟩
  have hl := (List.getElem?_eq_some_iff.1 hj).1
  rw [List.length_take] at hl
  rw [List.getElem?_take_of_lt (by omega)] at hj
  exact hj
theorem SlT.drop (t : SlT T E s b) (h : Cl w F v n xs) (hx : xs.length = n * s) (hk : k ≤ n) :
    ∃ v', Cl w F v' (n - k) (xs.drop (k * s)) ∧ ∀ W, (Instr.slice T v (some (.int .i64 (k : Int))) none none).run Try.prog W = .ok v' W := by
  obtain ⟨p, cap, rfl, h1, h2, h3, h4, h5⟩ := h
  refine ⟨.slice (if cap = k then p else p.map (·.add (k * s))) (n - k) (cap - k), ⟨_, _, rfl, by omega, by omega, by omega, fun hp => ?_, fun j x hj => ?_⟩, fun W => ?_⟩
  · split at hp
    · omega
    · have : p = none := by
        cases p with
        | none => rfl
        | some a => cases hp
      have := h4 this
      omega
  · have hl := (List.getElem?_eq_some_iff.1 hj).1
    rw [List.length_drop, hx, ← Nat.sub_mul] at hl
    have hlt : k < n := by
      rcases Nat.lt_or_ge k n with h | h
      · exact h
      · rw [Nat.sub_eq_zero_of_le h, Nat.zero_mul] at hl
        omega
    rw [List.getElem?_drop] at hj
    obtain ⟨g, off, rfl, hlt, hF, hc⟩ := h5 _ x hj
    refine ⟨g, off + k * s, ?_, hlt, hF, by rw [Nat.add_assoc]; exact hc⟩
    rw [if_neg (by omega)]
    simp [Addr.add_mid]
  · rw [run_slice_l W T _ _ _ (by rw [t.elem]; exact t.under) .i64 _ (by omega) (by omega), t.elem, t.size]
    simp only [Result.andThen, sliced]
    rw [show ((k : Int)).toNat = k from by omega]

/-- append onto a row of the call's own: the run, from any slice. -/
theorem SlT.append (t : SlT T E s b) (w : World) (base : Nat) (ty : TypeId) (hown : w.ownsRow base E s v n xs) (hcl : Cl w F u m ys) (hm : ys.length = m * s) (hone : ∀ x ∈ ys, x.oneCell' = true)
    (hlen : n + m ≤ 68719476736) (hbase : base ≤ w.heap.size) :
    ∃ v' w', (Builtin.append_ #[T, T] ty #[v, u]).run Try.prog w = .ok v' w' ∧ w'.ownsRow base E s v' (n + m) (xs ++ ys) ∧ w.grownBy w' v.ownBlock ∧ (v'.ownBlock = v.ownBlock ∨ v'.ownBlock = some w.heap.size) := by
  obtain ⟨z, hz, hzc⟩ := t.info
  obtain ⟨i0, hi, hz0, hz1, hz2⟩ := info_parts hz
  obtain ⟨p, cap, rfl, h1, h2, h3, h4, h5⟩ := hcl
  cases p with
  | none =>
    have hc := h4 rfl
    subst hc
    have hg : m = 0 := by omega
    subst hg
    have hw : ys = [] := List.eq_nil_of_length_eq_zero (by omega)
    subst hw
    have hrun := run_append_owned_none (P := Try.prog) (w := w) base T ty E i0 s t.under hi v _ _ hown
    exact ⟨v, w, hrun, by simpa using hown, ⟨rfl, rfl, rfl, Nat.le_refl _, fun _ _ _ => rfl⟩, .inl rfl⟩
  | some ad =>
    have hb := t.few
    have hmul : (n + m) * b ≤ 140737488355328 := Nat.le_trans (Nat.mul_le_mul hlen hb) (by decide)
    obtain ⟨v', w', hr, ho, hg, _, ha⟩ := run_append_own_at (P := Try.prog) w base T ty E i0 z s b t.under hi hz0 hz1 hz2 hzc t.pos v _ _ hown ad m cap ys hm
      (fun j x hx => by
        obtain ⟨g, off, e, _, _, hc⟩ := h5 j x hx
        obtain rfl := Option.some.inj e
        rw [Addr.add_mid]
        exact hc) hone (by unfold maxLen; omega) (by omega) hbase
    exact ⟨v', w', hr, ho, hg, ha⟩
theorem SlT.step_append (t : SlT T E s b) {ops : Array Oper} {o : Oper} {a : Act} {w : World} {K : Act → World → Prop} {Q : Exit → Act → World → Prop} {X : Prop} (hg : o.guard = none) (sd x : Operand)
    (hop : o.op = Op.call { callee := Callee.builtin Builtin.append, args := #[sd, x], argTypes := #[T, T] })
    (base : Nat) (hs : a.eval sd = v) (hx : a.eval x = u) (hown : w.ownsRow base E s v n xs) (hcl : Cl w F u m ys) (hm : ys.length = m * s) (hone : ∀ x ∈ ys, x.oneCell' = true)
    (hlen : n + m ≤ 68719476736) (hbase : base ≤ w.heap.size)
    (hK : ∀ v' w', w'.ownsRow base E s v' (n + m) (xs ++ ys) → w.grownBy w' v.ownBlock → (v'.ownBlock = v.ownBlock ∨ v'.ownBlock = some w.heap.size) → K (a.put o.dst v') w') :
    if Region.wanted o (yielded ops a.tmps) = true then Oper.wp Try.prog o a w K Q else X := by
  have hw : Region.wanted o (yielded ops a.tmps) = true := by simp [Region.wanted, hg]
  rw [if_pos hw]
  obtain ⟨v', w', hrun, h1, h2, h3⟩ := t.append w base o.type hown hcl hm hone hlen hbase
  unfold Oper.wp
  simp [execOp, hop, resolve, invoke, builtin, hs, hx, hrun, Result.andThen]
  exact hK v' w' h1 h2 h3
theorem SlT.wpList_append (t : SlT T E s b) {w : World} {ops : Array Oper} {rest : List Oper} {o : Oper} {a : Act} {Q : Exit → Act → World → Prop} (hg : o.guard = none) (sd x : Operand)
    (hop : o.op = Op.call { callee := Callee.builtin Builtin.append, args := #[sd, x], argTypes := #[T, T] })
    (base : Nat) (hs : a.eval sd = v) (hx : a.eval x = u) (hown : w.ownsRow base E s v n xs) (hcl : Cl w F u m ys) (hm : ys.length = m * s) (hone : ∀ x ∈ ys, x.oneCell' = true)
    (hlen : n + m ≤ 68719476736) (hbase : base ≤ w.heap.size)
    (hK : ∀ v' w', w'.ownsRow base E s v' (n + m) (xs ++ ys) → w.grownBy w' v.ownBlock → (v'.ownBlock = v.ownBlock ∨ v'.ownBlock = some w.heap.size) → wpList Try.prog ops Q rest (a.put o.dst v') w') : wpList Try.prog ops Q (o :: rest) a w := by
  refine wpList_plain hg fun K hKK => ?_
  obtain ⟨v', w', hrun, h1, h2, h3⟩ := t.append w base o.type hown hcl hm hone hlen hbase
  unfold Oper.wp
  simp [execOp, hop, resolve, invoke, builtin, hs, hx, hrun, Result.andThen]
  exact hKK _ _ (hK v' w' h1 h2 h3)
end

theorem slInt : SlT 49 3 1 8 :=
  ⟨Try.underlying49, by simp [Program.elem, Try.underlying49], fun _ => by kernel_rfl, ⟨.int .i64 0, by kernel_rfl, rfl⟩, by omega, by omega⟩

/-- A new block is a slice of its cells. -/
theorem Cl.new (w : World) (F : Nat → Prop) (n : Nat) (xs : List Value) (cs : Array Value) (t : TypeId) (hcs : cs = xs.toArray) (hn : n ≤ 140737488355328) (hF : F w.heap.size) :
    Cl (w.alloc (.cells cs t)) F (.slice (some ⟨w.heap.size, 0, none⟩) n n) n xs := by
  subst hcs
  refine ⟨_, _, rfl, Nat.le_refl _, hn, by omega, (fun e => by cases e), fun j x hx => ⟨w.heap.size, 0, rfl, by simp, hF, ?_⟩⟩
  rw [Nat.zero_add]
  exact cell_of (heap_alloc_new w _) (by simpa using hx)
end Go.Proofs.Ytjojimmfjmchcaa
