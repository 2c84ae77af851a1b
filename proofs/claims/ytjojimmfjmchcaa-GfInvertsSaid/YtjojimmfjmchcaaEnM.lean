/-
  Versions in memory: 'Cl w F v n xs': the slice v of n elements whose cells, one behind the other, are xs, in blocks of F; 'By': bytes; 'En': versions. What they outlast, what is read at one place, parts of them, a new row of the call's own.
-/
import Derived.Test.YtjojimmfjmchcaaBlk
import Derived.Test.YtjojimmfjmchcaaEnP
import Derived.Deep.DeepCutAuto
namespace Go.Proofs.Ytjojimmfjmchcaa
open Go.RowKit

/-! ### a slice by its cells, in blocks of F -/
def Cl (w : World) (F : Nat → Prop) (v : Value) (n : Nat) (xs : List Value) : Prop :=
  ∃ p cap, v = .slice p n cap ∧ n ≤ cap ∧ n ≤ 140737488355328 ∧ cap ≤ 9223372036854775807 ∧ (p = none → cap = 0) ∧
    ∀ (j : Nat) (x : Value), xs[j]? = some x → ∃ b off, p = some ⟨b, off, none⟩ ∧ b < w.heap.size ∧ F b ∧ w.cell? ⟨b, off + j, none⟩ = some x
section
variable {w w' : World} {F G S : Nat → Prop} {v : Value} {n : Nat} {xs : List Value}
theorem Cl.step (h : Cl w F v n xs) (hf : Fr S w w') (hd : ∀ k, k < w.heap.size → F k → ¬ S k) : Cl w' F v n xs := by
  obtain ⟨p, cap, e, h1, h2, h3, h4, h5⟩ := h
  refine ⟨p, cap, e, h1, h2, h3, h4, fun j x hx => ?_⟩
  obtain ⟨b, off, e2, hb, hs, hc⟩ := h5 j x hx
  exact ⟨b, off, e2, Nat.lt_of_lt_of_le hb hf.size, hs, (World.cell?_of_block (hf.block b hb (hd b hb hs))).trans hc⟩
theorem Cl.mono (h : Cl w F v n xs) (hG : ∀ k, k < w.heap.size → F k → G k) : Cl w G v n xs := by
  obtain ⟨p, cap, e, h1, h2, h3, h4, h5⟩ := h
  refine ⟨p, cap, e, h1, h2, h3, h4, fun j x hx => ?_⟩
  obtain ⟨b, off, e2, hb, hs, hc⟩ := h5 j x hx
  exact ⟨b, off, e2, hb, hG b hb hs, hc⟩
theorem Cl.below (h : Cl w F v n xs) (hb : Below w.heap.size w w') : Cl w' F v n xs := h.step (Fr.of_new hb (fun _ => False)) fun _ _ _ hf => hf
theorem Cl.nil (w : World) (F : Nat → Prop) : Cl w F (.slice none 0 0) 0 [] := ⟨none, 0, rfl, Nat.le_refl _, by omega, by omega, fun _ => rfl, fun j x h => by simp at h⟩
theorem Cl.form (h : Cl w F v n xs) : ∃ p cap, v = .slice p n cap ∧ n ≤ cap ∧ n ≤ 140737488355328 ∧ cap ≤ 9223372036854775807 ∧ (p = none → cap = 0) := by
  obtain ⟨p, cap, e, h1, h2, h3, h4, _⟩ := h
  exact ⟨p, cap, e, h1, h2, h3, h4⟩
theorem Cl.at_ {p : Option Addr} {m cap : Nat} (h : Cl w F (.slice p m cap) n xs) {j : Nat} {x : Value} (hx : xs[j]? = some x) : ∃ b off, p = some ⟨b, off, none⟩ ∧ b < w.heap.size ∧ F b ∧ w.cell? ⟨b, off + j, none⟩ = some x := by
  obtain ⟨p', cap', e, _, _, _, _, h5⟩ := h
  injection e with e1 e2 e3
  subst e1
  exact h5 j x hx
theorem Cl.one (h : Cl w F v n xs) : v.oneCell' = true := by
  obtain ⟨p, cap, rfl, _⟩ := h
  rfl
theorem Cl.len (h : Cl w F v n xs) : n ≤ 140737488355328 := by
  obtain ⟨p, cap, e, h1, h2, _⟩ := h
  exact h2
/-- Where any cell is there, the slice has a block, and that is in F. -/
theorem Cl.block (h : Cl w F v n xs) {k : Nat} (hk : v.ownBlock = some k) (h0 : xs ≠ []) : k < w.heap.size ∧ F k := by
  obtain ⟨p, cap, rfl, h1, h2, h3, h4, h5⟩ := h
  cases xs with
  | nil => exact absurd rfl h0
  | cons x r =>
    obtain ⟨b, off, rfl, hb, hF, _⟩ := h5 0 x rfl
    obtain rfl : b = k := by simpa [Value.ownBlock] using hk
    exact ⟨hb, hF⟩
/-- A row of the call's own. -/
theorem Cl.of_own {base : Nat} {e : TypeId} {s : Nat} (h : w.ownsRow base e s v n xs) (hn : n ≤ 140737488355328) (hF : ∀ k, v.ownBlock = some k → F k) (hl : xs.length = n * s) : Cl w F v n xs := by
  have h0 := h
  rcases h.2 with ⟨rfl, hz⟩ | ⟨g, cap, cur, rfl, hb, hg, hnc, hc, hsz, ht⟩
  · refine ⟨none, 0, by rw [hz], by omega, hn, by omega, fun _ => rfl, fun j x hx => ?_⟩
    have := (List.getElem?_eq_some_iff.1 hx).1
    rw [hl, hz, Nat.zero_mul] at this
    omega
  · refine ⟨_, cap, rfl, hnc, hn, by unfold maxLen at hc; exact hc, (fun e => by cases e), fun j x hx => ⟨g, 0, rfl, block_lt hg, hF g rfl, ?_⟩⟩
    have hj := (List.getElem?_eq_some_iff.1 hx).1
    rw [Nat.zero_add, h0.cellAt j (by omega), hx]
end

/-! ### bytes -/
def By (w : World) (F : Nat → Prop) (v : Value) (l : List UInt8) : Prop := Cl w F v l.length (bs l)
section
variable {w w' : World} {F G S : Nat → Prop} {v : Value} {l : List UInt8}
theorem By.step (h : By w F v l) (hf : Fr S w w') (hd : ∀ k, k < w.heap.size → F k → ¬ S k) : By w' F v l := Cl.step h hf hd
theorem By.mono (h : By w F v l) (hG : ∀ k, k < w.heap.size → F k → G k) : By w G v l := Cl.mono h hG
theorem By.below (h : By w F v l) (hb : Below w.heap.size w w') : By w' F v l := Cl.below h hb
theorem By.nil (w : World) (F : Nat → Prop) : By w F (.slice none 0 0) [] := Cl.nil w F
theorem By.form (h : By w F v l) : ∃ p cap, v = .slice p l.length cap ∧ l.length ≤ cap ∧ l.length ≤ 140737488355328 ∧ cap ≤ 9223372036854775807 ∧ (p = none → cap = 0) := Cl.form h
theorem By.len (h : By w F v l) : l.length ≤ 140737488355328 := Cl.len h
theorem By.rd (h : By w F v l) : Rd w w.heap.size v l := by
  obtain ⟨p, cap, e, h1, h2, h3, h4, h5⟩ := h
  refine ⟨p, cap, e, h1, ⟨h2, h3, h4⟩, fun h0 => ?_⟩
  obtain ⟨b, off, e2, hb, _, _⟩ := h5 0 _ (bs_at l 0 h0)
  refine ⟨b, off, e2, hb, fun i hi => ?_⟩
  obtain ⟨b', off', e3, _, _, hc⟩ := h5 i _ (bs_at l i hi)
  obtain ⟨rfl, rfl⟩ : b = b' ∧ off = off' := by rw [e2] at e3; simpa using e3
  exact hc
theorem By.of_rd {B : Nat} (h : Rd w B v l) (hB : B ≤ w.heap.size) (hF : ∀ k, k < B → F k) : By w F v l := by
  obtain ⟨p, cap, e, h1, ⟨h2, h3, h4⟩, h5⟩ := h
  refine ⟨p, cap, e, h1, h2, h3, h4, fun k x hx => ?_⟩
  have hk : k < l.length := by
    have := (List.getElem?_eq_some_iff.1 hx).1
    simpa [bs] using this
  obtain ⟨b, off, e2, hb, hc⟩ := h5 (by omega)
  rw [bs_at l k hk] at hx
  exact ⟨b, off, e2, by omega, hF b hb, by rw [hc k hk]; exact hx⟩
theorem By.of_own {base : Nat} (h : Own w base v l) (hn : l.length ≤ 140737488355328) (hF : ∀ k, v.ownBlock = some k → F k) : By w F v l := Cl.of_own h hn hF (by rw [bs_length, Nat.mul_one])
theorem By.of_rdv (h : RdV w S v (bs l)) : By w (fun k => ¬ S k) v l := by
  obtain ⟨p, cap, e, h1, h2, h3, h4, h5⟩ := h
  rw [bs_length] at e h1 h2
  exact ⟨p, cap, e, h1, h2, h3, h4, fun k x hx => by
    obtain ⟨b, off, e2, hb, hs, hc⟩ := h5 k x hx
    exact ⟨b, off, e2, hb, hs, hc⟩⟩
end
theorem Own.shp {w : World} {base : Nat} {v : Value} {l : List UInt8} (h : Own w base v l) : ∃ p cap, v = .slice p l.length cap ∧ l.length ≤ cap ∧ cap ≤ 9223372036854775807 := by
  rcases h.2 with ⟨rfl, h0⟩ | ⟨g, cap, cur, rfl, _, hg, h1, h2, _⟩
  · exact ⟨none, 0, by rw [h0], by omega, by omega⟩
  · exact ⟨_, cap, rfl, h1, by unfold maxLen at h2; exact h2⟩
/-- The text of a row of bytes. -/
theorem txt_run {w : World} {B : Nat} {v : Value} {l : List UInt8} (h : Rd w B v l) : (convert 48 9 v).run Try.prog w = .ok (.string ⟨l.toArray⟩) w := by
  obtain ⟨p, cap, rfl, hlc, _, hat⟩ := h
  rcases Nat.eq_zero_or_pos l.length with h0 | h0
  · have hn : l = [] := List.eq_nil_of_length_eq_zero h0
    subst hn
    rw [run_convert_bytes_string w _ _ 5 p _ _ Try.underlying48 Try.underlying5 Try.underlying9]
    cases p <;> simp [Conv.bytesToString] <;> rfl
  · obtain ⟨b, off, e, hb, hc⟩ := hat h0
    subst e
    refine run_convert_bytes_back w _ _ 5 ⟨b, off, none⟩ cap l Try.underlying48 Try.underlying5 Try.underlying9 fun j hj => ?_
    rw [Addr.add_mid, hc j hj]
    simp [hj]

/-! ### versions -/
def cellsE : List Ent → List Value → List Value
  | e :: r, u :: us => .string ⟨e.key.toArray⟩ :: .int .u64 (e.seq : Int) :: .bool e.gone :: u :: cellsE r us
  | _, _ => []
theorem cellsE_length : ∀ (l : List Ent) (us : List Value), us.length = l.length → (cellsE l us).length = l.length * 4
  | [], [], _ => rfl
  | [], _ :: _, h => by simp at h
  | _ :: _, [], h => by simp at h
  | f :: r, u :: us, h => by
    have := cellsE_length r us (by simpa using h)
    simp only [cellsE, List.length_cons, this]
    omega
theorem cellsE_at : ∀ (l : List Ent) (us : List Value) (k : Nat) (e : Ent) (u : Value), l[k]? = some e → us[k]? = some u →
    (cellsE l us)[k * 4]? = some (.string ⟨e.key.toArray⟩) ∧ (cellsE l us)[k * 4 + 1]? = some (.int .u64 (e.seq : Int)) ∧ (cellsE l us)[k * 4 + 2]? = some (.bool e.gone) ∧ (cellsE l us)[k * 4 + 3]? = some u
  | [], _, _, _, _, h, _ => by simp at h
  | _ :: _, [], _, _, _, _, h => by simp at h
  | g :: r, v :: us, 0, f, u, h, hu => by
    obtain rfl : g = f := by simpa using h
    obtain rfl : v = u := by simpa using hu
    exact ⟨rfl, rfl, rfl, rfl⟩
  | g :: r, v :: us, k + 1, f, u, h, hu => by
    have := cellsE_at r us k f u (by simpa using h) (by simpa using hu)
    rw [show (k + 1) * 4 = k * 4 + 4 by omega]
    simpa [cellsE] using this
theorem cellsE_append : ∀ (a b : List Ent) (ua ub : List Value), ua.length = a.length → cellsE (a ++ b) (ua ++ ub) = cellsE a ua ++ cellsE b ub
  | [], _, [], _, _ => rfl
  | [], _, _ :: _, _, h => by simp at h
  | _ :: _, _, [], _, h => by simp at h
  | f :: r, b, u :: us, ub, h => by
    have := cellsE_append r b us ub (by simpa using h)
    simp [cellsE, this]
theorem cellsE_drop (l : List Ent) (us : List Value) (h : us.length = l.length) (k : Nat) (hk : k ≤ l.length) : (cellsE l us).drop (k * 4) = cellsE (l.drop k) (us.drop k) := by
  have h1 := cellsE_append (l.take k) (l.drop k) (us.take k) (us.drop k) (by simp; omega)
  rw [List.take_append_drop, List.take_append_drop] at h1
  have h2 := cellsE_length (l.take k) (us.take k) (by simp; omega)
  rw [h1, List.drop_append_of_le_length (by rw [h2, List.length_take]; omega), List.drop_of_length_le (by rw [h2, List.length_take]; omega), List.nil_append]
theorem cellsE_take (l : List Ent) (us : List Value) (h : us.length = l.length) (k : Nat) (hk : k ≤ l.length) : (cellsE l us).take (k * 4) = cellsE (l.take k) (us.take k) := by
  have h1 := cellsE_append (l.take k) (l.drop k) (us.take k) (us.drop k) (by simp; omega)
  rw [List.take_append_drop, List.take_append_drop] at h1
  have h2 := cellsE_length (l.take k) (us.take k) (by simp; omega)
  rw [h1, List.take_append_of_le_length (by rw [h2, List.length_take]; omega), List.take_of_length_le (by rw [h2, List.length_take]; omega)]
theorem cellsE_one : ∀ (l : List Ent) (us : List Value), (∀ u ∈ us, u.oneCell' = true) → ∀ x ∈ cellsE l us, x.oneCell' = true
  | [], _, _, _, h => by simp [cellsE] at h
  | _ :: _, [], _, _, h => by simp [cellsE] at h
  | f :: r, u :: us, hu, x, h => by
    simp only [cellsE, List.mem_cons] at h
    rcases h with rfl | rfl | rfl | rfl | h
    · rfl
    · rfl
    · rfl
    · exact hu _ (by simp)
    · exact cellsE_one r us (fun v hv => hu v (by simp [hv])) x h

/-- The versions of a slice, with the slices of their values. -/
structure EnU (w : World) (F : Nat → Prop) (v : Value) (es : List Ent) (us : List Value) : Prop where
  len : us.length = es.length
  cl : Cl w F v es.length (cellsE es us)
  val : ∀ (k : Nat) (e : Ent) (u : Value), es[k]? = some e → us[k]? = some u → By w F u e.val
def En (w : World) (F : Nat → Prop) (v : Value) (es : List Ent) : Prop := ∃ us, EnU w F v es us
section
variable {w w' : World} {F G S : Nat → Prop} {v : Value} {es : List Ent} {us : List Value}
theorem EnU.step (h : EnU w F v es us) (hf : Fr S w w') (hd : ∀ k, k < w.heap.size → F k → ¬ S k) : EnU w' F v es us := ⟨h.len, h.cl.step hf hd, fun k e u h1 h2 => (h.val k e u h1 h2).step hf hd⟩
theorem EnU.mono (h : EnU w F v es us) (hG : ∀ k, k < w.heap.size → F k → G k) : EnU w G v es us := ⟨h.len, h.cl.mono hG, fun k e u h1 h2 => (h.val k e u h1 h2).mono hG⟩
theorem EnU.below (h : EnU w F v es us) (hb : Below w.heap.size w w') : EnU w' F v es us := ⟨h.len, h.cl.below hb, fun k e u h1 h2 => (h.val k e u h1 h2).below hb⟩
theorem En.step (h : En w F v es) (hf : Fr S w w') (hd : ∀ k, k < w.heap.size → F k → ¬ S k) : En w' F v es := by
  obtain ⟨us, h⟩ := h
  exact ⟨us, h.step hf hd⟩
theorem En.mono (h : En w F v es) (hG : ∀ k, k < w.heap.size → F k → G k) : En w G v es := by
  obtain ⟨us, h⟩ := h
  exact ⟨us, h.mono hG⟩
theorem En.below (h : En w F v es) (hb : Below w.heap.size w w') : En w' F v es := by
  obtain ⟨us, h⟩ := h
  exact ⟨us, h.below hb⟩
theorem En.nil (w : World) (F : Nat → Prop) : En w F (.slice none 0 0) [] := ⟨[], rfl, Cl.nil w F, fun k e u h => by simp at h⟩
theorem En.form (h : En w F v es) : ∃ p cap, v = .slice p es.length cap ∧ es.length ≤ cap ∧ es.length ≤ 140737488355328 ∧ cap ≤ 9223372036854775807 ∧ (p = none → cap = 0) := by
  obtain ⟨us, h⟩ := h
  exact h.cl.form
theorem EnU.ones (h : EnU w F v es us) : ∀ u ∈ us, u.oneCell' = true := fun u hu => by
  obtain ⟨k, hk, rfl⟩ := List.getElem_of_mem hu
  have hk2 : k < es.length := by rw [← h.len]; exact hk
  exact (h.val k _ _ (List.getElem?_eq_getElem hk2) (List.getElem?_eq_getElem hk)).one
theorem EnU.at_ {p : Option Addr} {m cap : Nat} (h : EnU w F (.slice p m cap) es us) {k : Nat} {e : Ent} (hk : es[k]? = some e) :
    ∃ b off q c, p = some ⟨b, off, none⟩ ∧ b < w.heap.size ∧ F b ∧ us[k]? = some (.slice q e.val.length c) ∧ By w F (.slice q e.val.length c) e.val ∧
      w.cell? ⟨b, off + k * 4, none⟩ = some (.string ⟨e.key.toArray⟩) ∧ w.cell? ⟨b, off + k * 4 + 1, none⟩ = some (.int .u64 (e.seq : Int)) ∧ w.cell? ⟨b, off + k * 4 + 2, none⟩ = some (.bool e.gone) ∧ w.cell? ⟨b, off + k * 4 + 3, none⟩ = some (.slice q e.val.length c) := by
  have hkl := (List.getElem?_eq_some_iff.1 hk).1
  have hku : us[k]? = some (us[k]'(by rw [h.len]; exact hkl)) := List.getElem?_eq_getElem _
  have hv := h.val k e _ hk hku
  obtain ⟨q, c, hq, _⟩ := hv.form
  rw [hq] at hku hv
  obtain ⟨e0, e1, e2, e3⟩ := cellsE_at es us k e _ hk hku
  obtain ⟨b, off, rfl, hb, hF, c0⟩ := h.cl.at_ e0
  obtain ⟨b1, off1, q1, _, _, c1⟩ := h.cl.at_ e1
  obtain ⟨b2, off2, q2, _, _, c2⟩ := h.cl.at_ e2
  obtain ⟨b3, off3, q3, _, _, c3⟩ := h.cl.at_ e3
  obtain ⟨rfl, rfl⟩ : b = b1 ∧ off = off1 := by simpa using q1
  obtain ⟨rfl, rfl⟩ : b = b2 ∧ off = off2 := by simpa using q2
  obtain ⟨rfl, rfl⟩ : b = b3 ∧ off = off3 := by simpa using q3
  exact ⟨b, off, q, c, rfl, hb, hF, hku, hv, c0, by rw [Nat.add_assoc]; exact c1, by rw [Nat.add_assoc]; exact c2, by rw [Nat.add_assoc]; exact c3⟩
theorem En.at_ {p : Option Addr} {m cap : Nat} (h : En w F (.slice p m cap) es) {k : Nat} {e : Ent} (hk : es[k]? = some e) :
    ∃ b off q c, p = some ⟨b, off, none⟩ ∧ b < w.heap.size ∧ F b ∧ By w F (.slice q e.val.length c) e.val ∧
      w.cell? ⟨b, off + k * 4, none⟩ = some (.string ⟨e.key.toArray⟩) ∧ w.cell? ⟨b, off + k * 4 + 1, none⟩ = some (.int .u64 (e.seq : Int)) ∧ w.cell? ⟨b, off + k * 4 + 2, none⟩ = some (.bool e.gone) ∧ w.cell? ⟨b, off + k * 4 + 3, none⟩ = some (.slice q e.val.length c) := by
  obtain ⟨us, h⟩ := h
  obtain ⟨b, off, q, c, h1, h2, h3, _, h4⟩ := h.at_ hk
  exact ⟨b, off, q, c, h1, h2, h3, h4⟩
end
/-- The value of a version. -/
def entV (e : Ent) (u : Value) : Value := .agg #[.string ⟨e.key.toArray⟩, .int .u64 (e.seq : Int), .bool e.gone, u]
end Go.Proofs.Ytjojimmfjmchcaa
