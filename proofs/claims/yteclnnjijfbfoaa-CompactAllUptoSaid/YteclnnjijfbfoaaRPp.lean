/-
  What a put makes of a table, plainly: order, heights, sizes stay right.
-/
import Derived.Test.YteclnnjijfbfoaaRTb
namespace Go.Proofs.Yteclnnjijfbfoaa
open Go.RowKit

theorem normE_fit {e : Ent} (h : FitE e) : FitE (normE e) := by
  refine ⟨h.seq, h.key, ?_⟩
  unfold normE
  show (if e.gone = true then ([] : List UInt8) else e.val).length ≤ _
  split
  · simp
  · exact h.val
theorem normE_one (e : Ent) : oneE (normE e) = true := by
  unfold oneE normE
  cases hg : e.gone <;> simp
theorem plcE_lo (e : Ent) (l : List Ent) {j : Nat} {f : Ent} (hj : j < plcE e l) (hf : l[j]? = some f) : lessE f e = true := takeWhile_lo _ l j f hj hf
theorem plcE_hi (e : Ent) (l : List Ent) {f : Ent} (hf : l[plcE e l]? = some f) : lessE f e = false := takeWhile_hi _ l f hf
theorem putT_found {T : PTb} {e : Ent} (h : foundE e T.L = true) : putT T e = { T with L := T.L.set (plcE e T.L) e } := by
  unfold putT
  rw [if_pos h]
theorem putT_new {T : PTb} {e : Ent} (h : foundE e T.L = false) : putT T e = { T with L := T.L.take (plcE e T.L) ++ e :: T.L.drop (plcE e T.L), H := T.H.take (plcE e T.L) ++ tow T :: T.H.drop (plcE e T.L), came := T.came + 1 } := by
  unfold putT
  rw [if_neg (by rw [h]; simp)]
theorem srt_ins {e : Ent} {l : List Ent} (h : SrtE l) (hn : foundE e l = false) : SrtE (l.take (plcE e l) ++ e :: l.drop (plcE e l)) := by
  have h0 := h
  rw [← List.take_append_drop (plcE e l) l] at h0
  obtain ⟨h1, h2, h3⟩ := List.pairwise_append.1 h0
  have hlo : ∀ x ∈ l.take (plcE e l), lessE x e = true := fun x hx => by
    obtain ⟨j, hj, rfl⟩ := List.getElem_of_mem hx
    rw [List.length_take] at hj
    rw [List.getElem_take]
    exact plcE_lo e l (by omega) (List.getElem?_eq_getElem _)
  have hhi : ∀ x ∈ l.drop (plcE e l), lessE e x = true := fun x hx => by
    have hlt : plcE e l < l.length := by
      rcases Nat.lt_or_ge (plcE e l) l.length with hh | hh
      · exact hh
      · rw [List.drop_eq_nil_of_le hh] at hx
        cases hx
    have hg := List.getElem?_eq_getElem hlt
    have hz : lessE e l[plcE e l] = true := by
      have ha : atE l[plcE e l] e = false := by
        unfold foundE at hn
        rw [hg] at hn
        exact hn
      exact lessE_total (plcE_hi e l hg) ha
    rw [List.drop_eq_getElem_cons hlt] at hx h2
    rcases List.mem_cons.1 hx with rfl | hx
    · exact hz
    · exact lessE_trans hz ((List.pairwise_cons.1 h2).1 x hx)
  refine List.pairwise_append.2 ⟨h1, List.pairwise_cons.2 ⟨hhi, h2⟩, fun a ha b hb => ?_⟩
  rcases List.mem_cons.1 hb with rfl | hb
  · exact hlo a ha
  · exact h3 a ha b hb
theorem srt_set {e : Ent} {l : List Ent} (h : SrtE l) (hn : foundE e l = true) : SrtE (l.set (plcE e l) e) := by
  have hlt : plcE e l < l.length := by
    rcases Nat.lt_or_ge (plcE e l) l.length with hh | hh
    · exact hh
    · unfold foundE at hn
      rw [List.getElem?_eq_none hh] at hn
      cases hn
  have ha : atE l[plcE e l] e = true := by
    unfold foundE at hn
    rw [List.getElem?_eq_getElem hlt] at hn
    exact hn
  unfold SrtE at h ⊢
  rw [List.pairwise_iff_getElem] at h ⊢
  intro i j hi hj hij
  rw [List.length_set] at hi hj
  have h1 := h i j hi hj hij
  rw [List.getElem_set, List.getElem_set]
  split
  · rename_i e1
    rw [if_neg (by omega)]
    subst e1
    rw [← lessE_at_left ha]
    exact h1
  · split
    · rename_i e1
      subst e1
      rw [← lessE_at_right ha]
      exact h1
    · exact h1
theorem mem_ins3 {α : Type} {e : α} {l : List α} {i : Nat} {x : α} (h : x ∈ l.take i ++ e :: l.drop i) : x = e ∨ x ∈ l := by
  rcases List.mem_append.1 h with h | h
  · exact .inr (List.mem_of_mem_take h)
  · rcases List.mem_cons.1 h with h | h
    · exact .inl h
    · exact .inr (List.mem_of_mem_drop h)
theorem mem_set2 {α : Type} {e : α} {l : List α} {i : Nat} {x : α} (h : x ∈ l.set i e) : x = e ∨ x ∈ l := by
  rcases List.mem_or_eq_of_mem_set h with h | h
  · exact .inr h
  · exact .inl h
theorem WfT.put {T : PTb} (h : WfT T) {e : Ent} (hf : FitE e) (ho : oneE e = true) : WfT (putT T e) := by
  cases hq : foundE e T.L
  · rw [putT_new hq]
    refine ⟨?_, fun x hx => (mem_ins3 hx).elim (fun he => he ▸ hf) (h.fit x), fun x hx => (mem_ins3 hx).elim (fun he => he ▸ ho) (h.one x), srt_ins h.srt hq, fun x hx => (mem_ins3 hx).elim (fun he => he ▸ tow_le T) (h.high x), h.drw⟩
    simp [h.hs]
  · rw [putT_found hq]
    exact ⟨by simp [h.hs], fun x hx => (mem_set2 hx).elim (fun he => he ▸ hf) (h.fit x), fun x hx => (mem_set2 hx).elim (fun he => he ▸ ho) (h.one x), srt_set h.srt hq, h.high, h.drw⟩
theorem putT_len (T : PTb) (e : Ent) : (putT T e).L.length ≤ T.L.length + 1 ∧ (putT T e).came ≤ T.came + 1 := by
  cases hq : foundE e T.L
  · rw [putT_new hq]
    simp
    omega
  · rw [putT_found hq]
    simp
/-- A pair of lists, one element put in between. -/
theorem pair_ins {α β : Type} {a : List α} {b : List β} (h : b.length = a.length) {i : Nat} (hi : i ≤ a.length) {f x : α} {u y : β} {k : Nat} (hx : (a.take i ++ f :: a.drop i)[k]? = some x) (hy : (b.take i ++ u :: b.drop i)[k]? = some y) : (x = f ∧ y = u) ∨ ∃ m : Nat, a[m]? = some x ∧ b[m]? = some y := by
  rcases Nat.lt_or_ge k i with hk | hk
  · rw [List.getElem?_append_left (by rw [List.length_take]; omega), List.getElem?_take_of_lt hk] at hx hy
    exact .inr ⟨k, hx, hy⟩
  · rw [List.getElem?_append_right (by rw [List.length_take]; omega), List.length_take, Nat.min_eq_left hi] at hx
    rw [List.getElem?_append_right (by rw [List.length_take]; omega), List.length_take, Nat.min_eq_left (by omega)] at hy
    cases hq : k - i with
    | zero =>
      rw [hq] at hx hy
      exact .inl ⟨by simpa using hx.symm, by simpa using hy.symm⟩
    | succ n =>
      rw [hq, List.getElem?_cons_succ, List.getElem?_drop] at hx hy
      exact .inr ⟨_, hx, hy⟩

/-! ### a version in its place, in memory -/
theorem cellsE_set : ∀ (l : List Ent) (us : List Value) (k : Nat) (x : Ent) (u : Value), us.length = l.length → k < l.length →
    cellsE (l.set k x) (us.set k u) = ((((cellsE l us).set (k * 4) (.string ⟨x.key.toArray⟩)).set (k * 4 + 1) (.int .u64 (x.seq : Int))).set (k * 4 + 2) (.bool x.gone)).set (k * 4 + 3) u
  | [], _, _, _, _, _, h => by simp at h
  | _ :: _, [], _, _, _, h, _ => by simp at h
  | g :: r, v :: us, 0, x, u, _, _ => rfl
  | g :: r, v :: us, k + 1, x, u, h, hk => by
    have := cellsE_set r us k x u (by simpa using h) (by simpa using hk)
    rw [show (k + 1) * 4 = k * 4 + 4 by omega]
    simp only [List.set_cons_succ, cellsE, this]
def set4o (w : World) (g o : Nat) (a b c d : Value) : World := (((w.setCell ⟨g, o, none⟩ a).setCell ⟨g, o + 1, none⟩ b).setCell ⟨g, o + 2, none⟩ c).setCell ⟨g, o + 3, none⟩ d
theorem set4o_fr (w : World) (g o : Nat) (x y z u : Value) (S : Nat → Prop) (hS : S g) : Fr S w (set4o w g o x y z u) :=
  (((Fr.setCell S w (p := ⟨g, o, none⟩) hS x).then (Fr.setCell S _ (p := ⟨g, o + 1, none⟩) hS y)).then (Fr.setCell S _ (p := ⟨g, o + 2, none⟩) hS z)).then (Fr.setCell S _ (p := ⟨g, o + 3, none⟩) hS u)
theorem set4o_row {w : World} {base n g cap : Nat} {e : TypeId} {s : Nat} {xs : List Value} (h : w.ownsRow base e s (.slice (some ⟨g, 0, none⟩) n cap) n xs) (o : Nat) (a b c d : Value) :
    (set4o w g o a b c d).ownsRow base e s (.slice (some ⟨g, 0, none⟩) n cap) n ((((xs.set o a).set (o + 1) b).set (o + 2) c).set (o + 3) d) :=
  (World.ownsRow.stored (World.ownsRow.stored (World.ownsRow.stored (World.ownsRow.stored h o a).1 (o + 1) b).1 (o + 2) c).1 (o + 3) d).1
end Go.Proofs.Yteclnnjijfbfoaa
