/-
  Matrices in memory: 'Mx w F v rows': a slice of slices of bytes in blocks of F; 'OwL w G v us rows': one of the call's own (its slices us), whose blocks lie in G and are unlike: what it outlasts, what is read and written at one place.
-/
import Derived.Test.YtjojimmfjmchcaaClR
import Derived.Test.YtjojimmfjmchcaaGmP
import Derived.Laws.MakeOwn
namespace Go.Proofs.Ytjojimmfjmchcaa
open Go.RowKit

theorem row_keep {w w' : World} {base s n : Nat} {e : TypeId} {v : Value} {xs : List Value} (h : w.ownsRow base e s v n xs) (hk : ∀ k, v.ownBlock = some k → w'.heap[k]? = w.heap[k]?) : w'.ownsRow base e s v n xs := by
  refine ⟨h.1, ?_⟩
  rcases h.2 with hn | ⟨g, cap, cur, rfl, h1, h2, h3⟩
  · exact .inl hn
  · exact .inr ⟨g, cap, cur, rfl, h1, (hk g (by simp [Value.ownBlock])).trans h2, h3⟩
theorem row_zero {w : World} {base s n : Nat} {e : TypeId} {v : Value} {xs : List Value} (h : w.ownsRow base e s v n xs) : w.ownsRow 0 e s v n xs := by
  refine ⟨h.1, ?_⟩
  rcases h.2 with hn | ⟨g, cap, cur, e, h1, h2⟩
  · exact .inl hn
  · exact .inr ⟨g, cap, cur, e, Nat.zero_le _, h2⟩
theorem row_lt {w : World} {base s n : Nat} {e : TypeId} {v : Value} {xs : List Value} (h : w.ownsRow base e s v n xs) {k : Nat} (hk : v.ownBlock = some k) : k < w.heap.size := (World.ownsRow.lt h k hk).2
theorem own_lt {w : World} {base : Nat} {v : Value} {l : List UInt8} (h : Own w base v l) {k : Nat} (hk : v.ownBlock = some k) : k < w.heap.size := row_lt h hk

theorem bel_alloc (w : World) (o : Obj) : Below w.heap.size w (w.alloc o) := (Below.refl _ _).alloc (Nat.le_refl _) _

/-! ### a slice of slices of bytes, in blocks of F -/
def Mx (w : World) (F : Nat → Prop) (v : Value) (rows : List (List UInt8)) : Prop :=
  ∃ us : List Value, us.length = rows.length ∧ Cl w F v rows.length us ∧ ∀ (k : Nat) (u : Value) (l : List UInt8), us[k]? = some u → rows[k]? = some l → By w F u l
section
variable {w w' : World} {F G S : Nat → Prop} {v : Value} {rows : List (List UInt8)}
theorem Mx.step (h : Mx w F v rows) (hf : Fr S w w') (hd : ∀ k, k < w.heap.size → F k → ¬ S k) : Mx w' F v rows := by
  obtain ⟨us, h1, h2, h3⟩ := h
  exact ⟨us, h1, h2.step hf hd, fun k u l hu hl => (h3 k u l hu hl).step hf hd⟩
theorem Mx.below (h : Mx w F v rows) (hb : Below w.heap.size w w') : Mx w' F v rows := h.step (Fr.of_new hb (fun _ => False)) fun _ _ _ hf => hf
theorem Mx.under {B : Nat} (h : Mx w (fun k => k < B) v rows) (hb : Below B w w') : Mx w' (fun k => k < B) v rows := h.step (Fr.of_below hb) fun _ _ h1 h2 => by omega
theorem Mx.mono (h : Mx w F v rows) (hG : ∀ k, k < w.heap.size → F k → G k) : Mx w G v rows := by
  obtain ⟨us, h1, h2, h3⟩ := h
  exact ⟨us, h1, h2.mono hG, fun k u l hu hl => (h3 k u l hu hl).mono hG⟩
theorem Mx.form (h : Mx w F v rows) : ∃ p cap, v = .slice p rows.length cap ∧ rows.length ≤ cap ∧ rows.length ≤ 140737488355328 ∧ cap ≤ 9223372036854775807 ∧ (p = none → cap = 0) := by
  obtain ⟨us, _, h2, _⟩ := h
  exact h2.form
theorem Mx.at_ {p : Option Addr} {m cap : Nat} (h : Mx w F (.slice p m cap) rows) {k : Nat} {l : List UInt8} (hk : rows[k]? = some l) :
    ∃ b off q c, p = some ⟨b, off, none⟩ ∧ b < w.heap.size ∧ F b ∧ w.cell? ⟨b, off + k, none⟩ = some (.slice q l.length c) ∧ By w F (.slice q l.length c) l := by
  obtain ⟨us, h1, h2, h3⟩ := h
  obtain ⟨u, hu⟩ : ∃ u, us[k]? = some u := ⟨_, List.getElem?_eq_getElem (by rw [h1]; exact (List.getElem?_eq_some_iff.1 hk).1)⟩
  obtain ⟨b, off, e, hb, hF, hc⟩ := h2.at_ hu
  have hB := h3 k u l hu hk
  obtain ⟨q, c, rfl, _⟩ := hB.form
  exact ⟨b, off, q, c, e, hb, hF, hc, hB⟩
theorem Mx.nil (w : World) (F : Nat → Prop) : Mx w F (.slice none 0 0) [] := ⟨[], rfl, Cl.nil w F, fun k u l h => by simp at h⟩
end
/-- One byte of a slice of bytes. -/
theorem By.at_ {w : World} {F : Nat → Prop} {p : Option Addr} {m cap : Nat} {l : List UInt8} (h : By w F (.slice p m cap) l) {j : Nat} (hj : j < l.length) :
    ∃ b off, p = some ⟨b, off, none⟩ ∧ b < w.heap.size ∧ F b ∧ w.cell? ⟨b, off + j, none⟩ = some (.int .u8 ((l.getD j 0).toNat : Int)) := Cl.at_ h (bs_at l j hj)

/-! ### one of the call's own -/
structure OwL (w : World) (G : Nat → Prop) (v : Value) (us : List Value) (rows : List (List UInt8)) : Prop where
  row : w.ownsRow 0 48 1 v rows.length us
  own : ∀ (k : Nat) (u : Value) (l : List UInt8), us[k]? = some u → rows[k]? = some l → Own w 0 u l
  blk : ∀ k, v.ownBlock = some k → G k
  blks : ∀ (i : Nat) (u : Value) (k : Nat), us[i]? = some u → u.ownBlock = some k → G k
  apart : ∀ (i j : Nat) (u u' : Value) (b : Nat), i ≠ j → us[i]? = some u → us[j]? = some u' → u.ownBlock = some b → u'.ownBlock ≠ some b
section
variable {w w' : World} {F G S : Nat → Prop} {v : Value} {us : List Value} {rows : List (List UInt8)}
theorem OwL.len (h : OwL w G v us rows) : us.length = rows.length := by
  have := h.row.1
  omega
theorem OwL.there (h : OwL w G v us rows) {k : Nat} {l : List UInt8} (hk : rows[k]? = some l) : ∃ u, us[k]? = some u ∧ Own w 0 u l := by
  have hlt := (List.getElem?_eq_some_iff.1 hk).1
  have hu : us[k]? = some (us[k]'(by rw [h.len]; exact hlt)) := List.getElem?_eq_getElem _
  exact ⟨_, hu, h.own k _ l hu hk⟩
theorem OwL.lt (h : OwL w G v us rows) {i k : Nat} {u : Value} (hu : us[i]? = some u) (hk : u.ownBlock = some k) : k < w.heap.size := by
  have hlt : i < rows.length := by rw [← h.len]; exact (List.getElem?_eq_some_iff.1 hu).1
  exact own_lt (h.own i u _ hu (List.getElem?_eq_getElem hlt)) hk
theorem OwL.keep (h : OwL w G v us rows) (hk : ∀ k, k < w.heap.size → G k → w'.heap[k]? = w.heap[k]?) : OwL w' G v us rows :=
  ⟨row_keep h.row fun k hb => hk k (row_lt h.row hb) (h.blk k hb), fun k u l hu hl => (h.own k u l hu hl).keep fun b hb => hk b (h.lt hu hb) (h.blks k u b hu hb), h.blk, h.blks, h.apart⟩
theorem OwL.step (h : OwL w G v us rows) (hf : Fr S w w') (hd : ∀ k, k < w.heap.size → G k → ¬ S k) : OwL w' G v us rows := h.keep fun k hk hg => hf.block k hk (hd k hk hg)
theorem OwL.below (h : OwL w G v us rows) (hb : Below w.heap.size w w') : OwL w' G v us rows := h.keep fun k hk _ => hb.block k hk
theorem OwL.mono (h : OwL w G v us rows) (hG : ∀ k, k < w.heap.size → G k → F k) : OwL w F v us rows :=
  ⟨h.row, h.own, fun k hk => hG k (row_lt h.row hk) (h.blk k hk), fun i u k hu hk => hG k (h.lt hu hk) (h.blks i u k hu hk), h.apart⟩
theorem OwL.mx (h : OwL w G v us rows) (h1 : rows.length ≤ 140737488355328) (h2 : ∀ l ∈ rows, l.length ≤ 140737488355328) : Mx w G v rows :=
  ⟨us, h.len, Cl.of_own h.row h1 h.blk (by rw [h.len, Nat.mul_one]), fun k u l hu hl => By.of_own (h.own k u l hu hl) (h2 l (List.mem_of_getElem? hl)) fun b hb => h.blks k u b hu hb⟩
theorem OwL.nil (w : World) (G : Nat → Prop) : OwL w G (.slice none 0 0) [] [] :=
  ⟨World.ownsRow_nil _ _ _ _, (fun k u l h => by simp at h), (fun k h => by cases h), (fun i u k h => by simp at h), (fun i j u u' b _ h => by simp at h)⟩
/-- The slice itself, and the place of one row in it. -/
theorem OwL.at_ (h : OwL w G v us rows) {k : Nat} {l : List UInt8} (hk : rows[k]? = some l) :
    ∃ mb cap u, v = .slice (some ⟨mb, 0, none⟩) rows.length cap ∧ rows.length ≤ cap ∧ cap ≤ 9223372036854775807 ∧ mb < w.heap.size ∧ G mb ∧ us[k]? = some u ∧ w.cell? ⟨mb, k, none⟩ = some u ∧ w.frozen? ⟨mb, k, none⟩ = false ∧ Own w 0 u l := by
  obtain ⟨u, hu, ho⟩ := h.there hk
  have hlt := (List.getElem?_eq_some_iff.1 hk).1
  rcases h.row.2 with ⟨_, h0⟩ | ⟨g, cap, cur, e, _, hg, hn, hm, hs, ht⟩
  · omega
  · subst e
    refine ⟨g, cap, u, rfl, hn, by unfold maxLen at hm; exact hm, block_lt hg, h.blk g rfl, hu, cell_of hg ?_, frozen_of hg, ho⟩
    have e3 : (cur.toList.take (rows.length * 1))[k]? = some u := by rw [ht]; exact hu
    rw [List.getElem?_take_of_lt (by omega)] at e3
    simpa using e3
/-- A row that is not empty: its block. -/
theorem own_form {base : Nat} {u : Value} {l : List UInt8} (h : Own w base u l) (h0 : 0 < l.length) : ∃ g cap, u = .slice (some ⟨g, 0, none⟩) l.length cap ∧ l.length ≤ cap ∧ cap ≤ 9223372036854775807 ∧ g < w.heap.size := by
  rcases h.2 with ⟨_, hn⟩ | ⟨g, cap, cur, e, _, hg, h1, h2, _⟩
  · omega
  · exact ⟨g, cap, e, h1, by unfold maxLen at h2; exact h2, block_lt hg⟩
theorem own_cell {base g n cap i : Nat} {l : List UInt8} (h : Own w base (.slice (some ⟨g, 0, none⟩) n cap) l) (hi : i < l.length) :
    w.cell? ⟨g, i, none⟩ = some (.int .u8 ((l.getD i 0).toNat : Int)) ∧ w.frozen? ⟨g, i, none⟩ = false := by
  obtain ⟨h1, h2⟩ := h
  rcases h2 with ⟨e, _⟩ | ⟨g', cap', cur, e, hb, hg, hn, hm, hs, ht⟩
  · cases e
  · obtain ⟨rfl, rfl, rfl⟩ : g = g' ∧ n = l.length ∧ cap = cap' := by simpa using e
    refine ⟨cell_of hg ?_, frozen_of hg⟩
    have e3 : (cur.toList.take (l.length * 1))[i]? = some (.int .u8 ((l.getD i 0).toNat : Int)) := by rw [ht]; exact bs_at l i hi
    rw [List.getElem?_take] at e3
    simpa [hi] using e3
theorem own_set {base g n cap i : Nat} {l : List UInt8} (h : Own w base (.slice (some ⟨g, 0, none⟩) n cap) l) (x : UInt8) :
    Own (w.setCell ⟨g, i, none⟩ (.int .u8 (x.toNat : Int))) base (.slice (some ⟨g, 0, none⟩) n cap) (l.set i x) := by
  obtain ⟨h1, h2⟩ := h
  rcases h2 with ⟨e, _⟩ | ⟨g', cap', cur, e, hb, hg, hn, hm, hs, ht⟩
  · cases e
  · obtain ⟨rfl, rfl, rfl⟩ : g = g' ∧ n = l.length ∧ cap = cap' := by simpa using e
    refine ⟨by simp [bs], .inr ⟨g, cap, cur.setIfInBounds i (.int .u8 (x.toNat : Int)), by simp, hb, setCell_same hg _, by simpa using hn, hm, by simpa using hs, ?_⟩⟩
    have e2 : bs (l.set i x) = (bs l).set i (bv x) := by simp [bs, List.map_set]
    rw [e2, ← ht]
    simp [List.take_set, bv]
theorem own_kind {base g : Nat} {u : Value} {l : List UInt8} (h : Own w base u l) (hg : u.ownBlock = some g) : ∃ cur, w.heap[g]? = some (.cells cur 5 (0, 0)) := Own.heap h hg
theorem row_kind {base s n g : Nat} {e : TypeId} {xs : List Value} (h : w.ownsRow base e s v n xs) (hg : v.ownBlock = some g) : ∃ cur, w.heap[g]? = some (.cells cur e (0, 0)) := by
  rcases h.2 with ⟨rfl, _⟩ | ⟨g', cap, cur, rfl, _, hb, _⟩
  · cases hg
  · obtain rfl : g' = g := by simpa [Value.ownBlock] using hg
    exact ⟨cur, hb⟩
/-- The slice's block is none of its rows'. -/
theorem OwL.ne (h : OwL w G v us rows) {mb i g : Nat} {u : Value} (hv : v.ownBlock = some mb) (hu : us[i]? = some u) (hg : u.ownBlock = some g) : mb ≠ g := by
  obtain ⟨c1, h1⟩ := row_kind h.row hv
  have hlt : i < rows.length := by rw [← h.len]; exact (List.getElem?_eq_some_iff.1 hu).1
  obtain ⟨c2, h2⟩ := own_kind (h.own i u _ hu (List.getElem?_eq_getElem hlt)) hg
  exact kind_ne h1 h2 (by decide)
/-- A row is written within its block: another world where only that block has changed, and the row reads as l'. -/
theorem OwL.rowTo (h : OwL w G v us rows) {k g : Nat} {u : Value} {l' : List UInt8} (hu : us[k]? = some u) (hg : u.ownBlock = some g) (hf : Fr (fun b => b = g) w w') (ho : Own w' 0 u l') : OwL w' G v us (rows.set k l') := by
  refine ⟨?_, fun i u' l hu' hl => ?_, h.blk, h.blks, h.apart⟩
  · rw [List.length_set]
    exact row_keep h.row fun b hb => hf.block b (row_lt h.row hb) fun e => h.ne (e ▸ hb) hu hg rfl
  · rw [List.getElem?_set] at hl
    by_cases hik : k = i
    · subst hik
      rw [if_pos rfl] at hl
      split at hl
      · obtain rfl := Option.some.inj hl
        obtain rfl := Option.some.inj (hu.symm.trans hu')
        exact ho
      · cases hl
    · rw [if_neg hik] at hl
      exact (h.own i u' l hu' hl).keep fun b hb => hf.block b (h.lt hu' hb) fun e => by subst e; exact h.apart k i u u' b hik hu hu' hg hb
theorem OwL.put (h : OwL w G v us rows) {k g n cap j : Nat} {l : List UInt8} (hu : us[k]? = some (.slice (some ⟨g, 0, none⟩) n cap)) (hl : rows[k]? = some l) (x : UInt8) :
    OwL (w.setCell ⟨g, j, none⟩ (.int .u8 (x.toNat : Int))) G v us (rows.set k (l.set j x)) :=
  h.rowTo (g := g) hu rfl (Fr.setCell (fun b => b = g) w (p := ⟨g, j, none⟩) rfl _) (own_set (h.own k _ l hu hl) x)
/-- Another slice of bytes is put in a row's place. -/
theorem OwL.seat (h : OwL w G v us rows) {k mb n cap : Nat} {u : Value} {l : List UInt8} (hv : v = .slice (some ⟨mb, 0, none⟩) n cap) (hk : k < rows.length) (ho : Own w 0 u l) (hG : ∀ b, u.ownBlock = some b → G b)
    (hne : ∀ (i : Nat) (u' : Value) (b : Nat), i ≠ k → us[i]? = some u' → u.ownBlock = some b → u'.ownBlock ≠ some b) : OwL (w.setCell ⟨mb, k, none⟩ u) G v (us.set k u) (rows.set k l) := by
  have hf : Fr (fun b => b = mb) w (w.setCell ⟨mb, k, none⟩ u) := Fr.setCell (fun b => b = mb) w (p := ⟨mb, k, none⟩) rfl _
  obtain ⟨c0, hmb⟩ := row_kind h.row (by rw [hv]; rfl)
  have hk2 : k < us.length := by rw [h.len]; exact hk
  have hat : ∀ (i : Nat) (x : Value), (us.set k u)[i]? = some x → (i = k ∧ x = u) ∨ (i ≠ k ∧ us[i]? = some x) := fun i x hx => by
    rw [List.getElem?_set] at hx
    by_cases e : k = i
    · subst e
      rw [if_pos rfl, if_pos hk2] at hx
      exact .inl ⟨rfl, (Option.some.inj hx).symm⟩
    · rw [if_neg e] at hx
      exact .inr ⟨fun e2 => e e2.symm, hx⟩
  have hle : ∀ (i : Nat) (x : List UInt8), (rows.set k l)[i]? = some x → (i = k ∧ x = l) ∨ (i ≠ k ∧ rows[i]? = some x) := fun i x hx => by
    rw [List.getElem?_set] at hx
    by_cases e : k = i
    · subst e
      rw [if_pos rfl, if_pos hk] at hx
      exact .inl ⟨rfl, (Option.some.inj hx).symm⟩
    · rw [if_neg e] at hx
      exact .inr ⟨fun e2 => e e2.symm, hx⟩
  refine ⟨?_, fun i u' l' hu' hl' => ?_, h.blk, fun i u' b hu' hb => ?_, fun i j u1 u2 b hij h1 h2 hb => ?_⟩
  · subst hv
    rcases h.row.2 with ⟨e, _⟩ | ⟨g', cap', cur, e, hb, hg, hn, hm, hs, ht⟩
    · cases e
    · obtain ⟨rfl, rfl, rfl⟩ : mb = g' ∧ n = rows.length ∧ cap = cap' := by simpa using e
      refine ⟨by have := h.row.1; simp only [List.length_set]; omega, .inr ⟨mb, cap, cur.setIfInBounds k u, by rw [List.length_set], hb, setCell_same hg _, by rw [List.length_set]; exact hn, hm, by simpa using hs, ?_⟩⟩
      rw [List.length_set, ← ht]
      simp [List.take_set]
  · rcases hat i u' hu' with ⟨rfl, rfl⟩ | ⟨e1, e2⟩
    · rcases hle i l' hl' with ⟨_, rfl⟩ | ⟨e3, _⟩
      · exact ho.keep fun b hb => hf.block b (own_lt ho hb) fun e => by
          obtain ⟨c1, h1⟩ := own_kind ho hb
          rw [e] at h1
          exact kind_ne hmb h1 (by decide) rfl
      · exact absurd rfl e3
    · rcases hle i l' hl' with ⟨rfl, _⟩ | ⟨_, e4⟩
      · exact absurd rfl e1
      · have ho2 := h.own i u' l' e2 e4
        exact ho2.keep fun b hb => hf.block b (own_lt ho2 hb) fun e => by
          obtain ⟨c1, h1⟩ := own_kind ho2 hb
          rw [e] at h1
          exact kind_ne hmb h1 (by decide) rfl
  · rcases hat i u' hu' with ⟨rfl, rfl⟩ | ⟨e1, e2⟩
    · exact hG b hb
    · exact h.blks i u' b e2 hb
  · rcases hat i u1 h1 with ⟨rfl, rfl⟩ | ⟨e1, e2⟩
    · rcases hat j u2 h2 with ⟨rfl, rfl⟩ | ⟨e3, e4⟩
      · exact absurd rfl hij
      · exact hne j u2 b e3 e4 hb
    · rcases hat j u2 h2 with ⟨rfl, rfl⟩ | ⟨e3, e4⟩
      · exact fun e => hne i u1 b e1 e2 e hb
      · exact h.apart i j u1 u2 b hij e2 e4 hb
/-- One row more. -/
theorem OwL.push (h : OwL w G v us rows) {v' u : Value} {l : List UInt8} (hrow : w'.ownsRow 0 48 1 v' (rows.length + 1) (us ++ [u])) (hg : w.grownBy w' v.ownBlock) (hv' : ∀ b, v'.ownBlock = some b → G b) (ho : Own w 0 u l) (hG : ∀ b, u.ownBlock = some b → G b)
    (hne : ∀ (i : Nat) (u' : Value) (b : Nat), us[i]? = some u' → u.ownBlock = some b → u'.ownBlock ≠ some b) : OwL w' G v' (us ++ [u]) (rows ++ [l]) := by
  have hf : ∀ (x : Value) (lx : List UInt8), Own w 0 x lx → Own w' 0 x lx := fun x lx hx => hx.keep fun b hb => hg.block b (own_lt hx hb) fun e => by
    obtain ⟨c1, h1⟩ := own_kind hx hb
    obtain ⟨c2, h2⟩ := row_kind h.row e.symm
    exact kind_ne h2 h1 (by decide) rfl
  have hat : ∀ (i : Nat) (x : Value), (us ++ [u])[i]? = some x → (i = us.length ∧ x = u) ∨ (i < us.length ∧ us[i]? = some x) := fun i x hx => by
    by_cases e : i < us.length
    · rw [List.getElem?_append_left e] at hx
      exact .inr ⟨e, hx⟩
    · have h1 := (List.getElem?_eq_some_iff.1 hx).1
      rw [List.length_append, List.length_singleton] at h1
      obtain rfl : i = us.length := by omega
      rw [List.getElem?_append_right (Nat.le_refl _)] at hx
      simp only [Nat.sub_self, List.getElem?_cons_zero] at hx
      exact .inl ⟨rfl, (Option.some.inj hx).symm⟩
  refine ⟨by rw [List.length_append, List.length_singleton]; exact hrow, fun i x lx hx hl => ?_, hv', fun i x b hx hb => ?_, fun i j x y b hij hx hy hb => ?_⟩
  · rcases hat i x hx with ⟨rfl, rfl⟩ | ⟨e1, e2⟩
    · rw [h.len, List.getElem?_append_right (Nat.le_refl _)] at hl
      simp only [Nat.sub_self, List.getElem?_cons_zero] at hl
      obtain rfl := Option.some.inj hl
      exact hf _ _ ho
    · rw [List.getElem?_append_left (by rw [← h.len]; exact e1)] at hl
      exact hf _ _ (h.own i x lx e2 hl)
  · rcases hat i x hx with ⟨rfl, rfl⟩ | ⟨e1, e2⟩
    · exact hG b hb
    · exact h.blks i x b e2 hb
  · rcases hat i x hx with ⟨rfl, rfl⟩ | ⟨e1, e2⟩
    · rcases hat j y hy with ⟨rfl, rfl⟩ | ⟨e3, e4⟩
      · exact absurd rfl hij
      · exact hne j y b e4 hb
    · rcases hat j y hy with ⟨rfl, rfl⟩ | ⟨e3, e4⟩
      · exact fun e => hne i x b e2 e hb
      · exact h.apart i j x y b hij e2 e4 hb
end

/-! ### what 'make' gives -/
theorem slByt : SlT 48 5 1 1 :=
  ⟨Try.underlying48, by simp [Program.elem, Try.underlying48], fun _ => by kernel_rfl, ⟨.int .u8 0, by kernel_rfl, rfl⟩, by omega, by omega⟩
theorem slMx : SlT 36 48 1 24 :=
  ⟨Try.underlying36, by simp [Program.elem, Try.underlying36], fun _ => by kernel_rfl, ⟨.slice none 0 0, by kernel_rfl, rfl⟩, by omega, by omega⟩
theorem slGf : SlT 38 48 1 24 :=
  ⟨Try.underlying38, by simp [Program.elem, Try.underlying38], fun _ => by kernel_rfl, ⟨.slice none 0 0, by kernel_rfl, rfl⟩, by omega, by omega⟩
theorem mk_bytes (n : Nat) (h : n ≤ 1099511627776) (W : World) : (Instr.makeSlice 48 (.int .i64 (n : Int)) (.int .i64 (n : Int))).run Try.prog W = .ok (.slice (some ⟨W.heap.size, 0, none⟩) n n) (W.alloc (.cells (bs (zeroR n)).toArray 5)) := by
  obtain ⟨i0, hi, hz0, hz1, hz2⟩ := info_parts infoU8
  have h1 := run_make (P := Try.prog) W 48 5 i0 (.int .u8 0) Try.underlying48 hi hz0 .i64 .i64 (n : Int) (n : Int) (by omega) (by omega) (by rw [hz2]; omega) (by omega)
  have e : madeCells (Value.int .u8 0).cells (((n : Nat) : Int).toNat * i0.size) = (bs (zeroR n)).toArray := by
    rw [hz1, zeroR_rep]
    apply Array.ext
    · simp [madeCells, bs]
    · intro i h2 h3
      have hv : (Value.int IntKind.u8 0).cells = #[Value.int .u8 0] := rfl
      simp [madeCells, bs, bv, hv, Nat.mod_one]
  rw [e] at h1
  simpa using h1
theorem own_made (W : World) (n : Nat) (h : n ≤ 1099511627776) : Own (W.alloc (.cells (bs (zeroR n)).toArray 5)) W.heap.size (.slice (some ⟨W.heap.size, 0, none⟩) n n) (zeroR n) := by
  have hz : (zeroR n).length = n := rowM_len _ _
  refine ⟨by rw [bs_length, Nat.mul_one], .inr ⟨W.heap.size, n, _, by rw [hz], Nat.le_refl _, heap_alloc_new W _, by omega, by unfold maxLen; omega, by simp [bs_length, hz], ?_⟩⟩
  exact List.take_of_length_le (by simp [bs_length, hz])
theorem mk_gf (n : Nat) (h : n ≤ 1099511627776) (W : World) : (Instr.makeSlice 38 (.int .i64 (n : Int)) (.int .i64 (n : Int))).run Try.prog W = .ok (.slice (some ⟨W.heap.size, 0, none⟩) n n) (W.alloc (.cells (Array.replicate n (.slice none 0 0)) 48)) := by
  obtain ⟨z, hz, _⟩ := slGf.info
  obtain ⟨i0, hi, hz0, hz1, hz2⟩ := info_parts (z := .slice none 0 0) (size := 1) (bytes := 24) (show (Try.prog.info? 48).map (fun i => (i.zero, i.size, i.bytes)) = some (some (.slice none 0 0), 1, 24) by kernel_rfl)
  have h1 := run_make (P := Try.prog) W 38 48 i0 (.slice none 0 0) Try.underlying38 hi hz0 .i64 .i64 (n : Int) (n : Int) (by omega) (by omega) (by rw [hz2]; omega) (by omega)
  have e : madeCells (Value.slice none 0 0).cells (((n : Nat) : Int).toNat * i0.size) = Array.replicate n (.slice none 0 0) := by
    rw [hz1]
    apply Array.ext
    · simp [madeCells]
    · intro i h2 h3
      have hv : (Value.slice none 0 0).cells = #[Value.slice none 0 0] := rfl
      simp [madeCells, hv, Nat.mod_one]
  rw [e] at h1
  simpa using h1
theorem OwL.made (W : World) (n : Nat) (h : n ≤ 1099511627776) (G : Nat → Prop) (hG : G W.heap.size) : OwL (W.alloc (.cells (Array.replicate n (.slice none 0 0)) 48)) G (.slice (some ⟨W.heap.size, 0, none⟩) n n) (List.replicate n (.slice none 0 0)) (List.replicate n []) := by
  have hrep : ∀ (i : Nat) (u : Value), (List.replicate n (Value.slice none 0 0))[i]? = some u → u = .slice none 0 0 := fun i u hu => List.eq_of_mem_replicate (List.mem_of_getElem? hu)
  refine ⟨⟨by simp, .inr ⟨W.heap.size, n, _, by simp, Nat.zero_le _, heap_alloc_new W _, by simp, by unfold maxLen; omega, by simp, by simp⟩⟩, fun k u l hu hl => ?_, fun k hk => ?_, fun i u k hu hk => ?_, fun i j u u' b _ hu _ hb => ?_⟩
  · rw [hrep k u hu, List.eq_of_mem_replicate (List.mem_of_getElem? hl)]
    exact World.ownsRow_nil _ _ _ _
  · obtain rfl : W.heap.size = k := by simpa [Value.ownBlock] using hk
    exact hG
  · rw [hrep i u hu] at hk
    cases hk
  · rw [hrep i u hu] at hb
    cases hb
end Go.Proofs.Ytjojimmfjmchcaa
