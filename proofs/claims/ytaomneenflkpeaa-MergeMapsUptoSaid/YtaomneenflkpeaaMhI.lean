/-
  Of each key the newest version up to a number, the first list's of the same: as a map keeps it, told plainly; and that this is what is seen of the lists merged.
-/
import Derived.Test.YtaomneenflkpeaaMhE
import Derived.Test.YtaomneenflkpeaaMgC
namespace Go.Proofs.Ytaomneenflkpeaa

def lookB (m : List Ent) (s : List UInt8) : Option Ent := m.find? fun e => e.key == s
def setB (m : List Ent) (x : Ent) : List Ent := m.map fun e => if e.key == x.key then x else e
def putB (up : Nat) (m : List Ent) (x : Ent) : List Ent :=
  if up < x.seq then m else match lookB m x.key with
    | none => m ++ [x]
    | some y => if y.seq < x.seq then setB m x else m
def bstL (up : Nat) (l : List Ent) : List Ent := l.foldl (putB up) []
theorem bstL_snoc (up : Nat) (l : List Ent) (x : Ent) : bstL up (l ++ [x]) = putB up (bstL up l) x := by simp [bstL]

theorem lookB_some {m : List Ent} {s : List UInt8} {y : Ent} (h : lookB m s = some y) : y ∈ m ∧ y.key = s :=
  ⟨List.mem_of_find?_eq_some h, by simpa using List.find?_some h⟩
theorem lookB_none {m : List Ent} {s : List UInt8} (h : lookB m s = none) : ∀ y ∈ m, y.key ≠ s := fun y hy e => by
  have := (List.find?_eq_none.1 h) y hy
  simp [e] at this
def KeysN (m : List Ent) : Prop := m.Pairwise fun a b => a.key ≠ b.key
theorem KeysN.one {m : List Ent} (h : KeysN m) {a b : Ent} (ha : a ∈ m) (hb : b ∈ m) (he : a.key = b.key) : a = b := by
  obtain ⟨i, hi, rfl⟩ := List.getElem_of_mem ha
  obtain ⟨k, hk, rfl⟩ := List.getElem_of_mem hb
  rcases Nat.lt_trichotomy i k with hik | hik | hik
  · exact absurd he ((List.pairwise_iff_getElem.1 h) i k hi hk hik)
  · subst hik; rfl
  · exact absurd he.symm ((List.pairwise_iff_getElem.1 h) k i hk hi hik)
theorem lookB_mem {m : List Ent} (h : KeysN m) {y : Ent} (hy : y ∈ m) : lookB m y.key = some y := by
  rcases e : lookB m y.key with _ | z
  · exact absurd rfl (lookB_none e y hy)
  · obtain ⟨h1, h2⟩ := lookB_some e
    rw [h.one h1 hy h2]
theorem mem_setB {m : List Ent} {x z : Ent} (h : z ∈ setB m x) : (z = x ∧ ∃ e ∈ m, e.key = x.key) ∨ (z ∈ m ∧ z.key ≠ x.key) := by
  obtain ⟨e, he, rfl⟩ := List.mem_map.1 h
  by_cases hk : e.key = x.key
  · exact .inl ⟨by simp [hk], e, he, hk⟩
  · exact .inr ⟨by simpa [hk] using he, by simp [hk]⟩
theorem setB_keys (m : List Ent) (x : Ent) : (setB m x).map Ent.key = m.map Ent.key := by
  unfold setB
  rw [List.map_map]
  refine List.map_congr_left fun e _ => ?_
  by_cases hk : e.key = x.key <;> simp [hk]
theorem keysN_iff (m : List Ent) : KeysN m ↔ (m.map Ent.key).Pairwise (· ≠ ·) := by
  unfold KeysN
  rw [List.pairwise_map]

/-- The first of a list at its place. -/
def FstE (l : List Ent) (e : Ent) : Prop := ∃ a b, l = a ++ e :: b ∧ ∀ z ∈ a, atE z e = false
theorem FstE.mem {l : List Ent} {e : Ent} (h : FstE l e) : e ∈ l := by
  obtain ⟨a, b, rfl, _⟩ := h
  simp
theorem FstE.snoc {l : List Ent} {e : Ent} (h : FstE l e) (x : Ent) : FstE (l ++ [x]) e := by
  obtain ⟨a, b, rfl, h1⟩ := h
  exact ⟨a, b ++ [x], by simp, h1⟩
structure BstE (up : Nat) (l m : List Ent) : Prop where
  keys : KeysN m
  mem : ∀ e ∈ m, FstE l e ∧ e.seq ≤ up ∧ ∀ z ∈ l, z.key = e.key → z.seq ≤ up → z.seq ≤ e.seq
  cov : ∀ z ∈ l, z.seq ≤ up → ∃ e ∈ m, e.key = z.key
theorem BstE.put {up : Nat} {l m : List Ent} (h : BstE up l m) (x : Ent) : BstE up (l ++ [x]) (putB up m x) := by
  unfold putB
  split
  · rename_i hx
    refine ⟨h.keys, fun e he => ?_, fun z hz hzu => ?_⟩
    · obtain ⟨h1, h2, h3⟩ := h.mem e he
      refine ⟨h1.snoc x, h2, fun z hz hk hzu => ?_⟩
      rcases List.mem_append.1 hz with hz | hz
      · exact h3 z hz hk hzu
      · rw [List.mem_singleton.1 hz] at hzu; omega
    · rcases List.mem_append.1 hz with hz | hz
      · exact h.cov z hz hzu
      · rw [List.mem_singleton.1 hz] at hzu; omega
  · rename_i hx
    have hx : x.seq ≤ up := by omega
    split
    · rename_i hlk
      have hno := lookB_none hlk
      have hnoL : ∀ z ∈ l, z.key = x.key → ¬ z.seq ≤ up := fun z hz hk hzu => by
        obtain ⟨e, he, hek⟩ := h.cov z hz hzu
        exact hno e he (hek.trans hk)
      refine ⟨?_, fun e he => ?_, fun z hz hzu => ?_⟩
      · refine List.pairwise_append.2 ⟨h.keys, by simp, fun a ha b hb => ?_⟩
        rw [List.mem_singleton.1 hb]
        exact hno a ha
      · rcases List.mem_append.1 he with he | he
        · obtain ⟨h1, h2, h3⟩ := h.mem e he
          refine ⟨h1.snoc x, h2, fun z hz hk hzu => ?_⟩
          rcases List.mem_append.1 hz with hz | hz
          · exact h3 z hz hk hzu
          · rw [List.mem_singleton.1 hz] at hk
            exact absurd hk.symm (hno e he)
        · obtain rfl := List.mem_singleton.1 he
          refine ⟨⟨l, [], rfl, fun z hz => ?_⟩, hx, fun z hz hk hzu => ?_⟩
          · rcases ha : atE z e with _ | _
            · rfl
            · obtain ⟨k1, k2⟩ := atE_iff.1 ha
              exact absurd (by omega : z.seq ≤ up) (hnoL z hz k1)
          · rcases List.mem_append.1 hz with hz | hz
            · exact absurd hzu (hnoL z hz hk)
            · rw [List.mem_singleton.1 hz]; exact Nat.le_refl _
      · rcases List.mem_append.1 hz with hz | hz
        · obtain ⟨e, he, hek⟩ := h.cov z hz hzu
          exact ⟨e, by simp [he], hek⟩
        · exact ⟨x, by simp, by rw [List.mem_singleton.1 hz]⟩
    · rename_i y hlk
      obtain ⟨hy, hyk⟩ := lookB_some hlk
      split
      · rename_i hlt
        refine ⟨?_, fun e he => ?_, fun z hz hzu => ?_⟩
        · rw [keysN_iff, setB_keys, ← keysN_iff]; exact h.keys
        · rcases mem_setB he with ⟨rfl, _⟩ | ⟨he, hne⟩
          · obtain ⟨_, _, h3⟩ := h.mem y hy
            refine ⟨⟨l, [], rfl, fun z hz => ?_⟩, hx, fun z hz hk hzu => ?_⟩
            · rcases ha : atE z e with _ | _
              · rfl
              · obtain ⟨k1, k2⟩ := atE_iff.1 ha
                have := h3 z hz (k1.trans hyk.symm) (by omega)
                omega
            · rcases List.mem_append.1 hz with hz | hz
              · have := h3 z hz (hk.trans hyk.symm) hzu
                omega
              · rw [List.mem_singleton.1 hz]; exact Nat.le_refl _
          · obtain ⟨h1, h2, h3⟩ := h.mem e he
            refine ⟨h1.snoc x, h2, fun z hz hk hzu => ?_⟩
            rcases List.mem_append.1 hz with hz | hz
            · exact h3 z hz hk hzu
            · rw [List.mem_singleton.1 hz] at hk
              exact absurd hk.symm hne
        · have hcov : ∃ e ∈ m, e.key = z.key := by
            rcases List.mem_append.1 hz with hz | hz
            · exact h.cov z hz hzu
            · exact ⟨y, hy, by rw [hyk, List.mem_singleton.1 hz]⟩
          obtain ⟨e, he, hek⟩ := hcov
          have : z.key ∈ (setB m x).map Ent.key := by rw [setB_keys]; exact hek ▸ List.mem_map_of_mem he
          obtain ⟨f, hf, hfk⟩ := List.mem_map.1 this
          exact ⟨f, hf, hfk⟩
      · rename_i hlt
        refine ⟨h.keys, fun e he => ?_, fun z hz hzu => ?_⟩
        · obtain ⟨h1, h2, h3⟩ := h.mem e he
          refine ⟨h1.snoc x, h2, fun z hz hk hzu => ?_⟩
          rcases List.mem_append.1 hz with hz | hz
          · exact h3 z hz hk hzu
          · rw [List.mem_singleton.1 hz] at hk ⊢
            have := h.keys.one he hy (hk.symm.trans hyk.symm)
            subst this; omega
        · rcases List.mem_append.1 hz with hz | hz
          · exact h.cov z hz hzu
          · exact ⟨y, hy, by rw [hyk, List.mem_singleton.1 hz]⟩
theorem bstL_snocs (up : Nat) : ∀ (b : List Ent) (a m : List Ent), BstE up a m → BstE up (a ++ b) (b.foldl (putB up) m)
  | [], a, m, h => by simpa using h
  | x :: r, a, m, h => by
    have := bstL_snocs up r (a ++ [x]) (putB up m x) (h.put x)
    simpa using this
theorem bstL_is (up : Nat) (l : List Ent) : BstE up l (bstL up l) := by
  have := bstL_snocs up l [] [] ⟨List.Pairwise.nil, fun e he => by (cases he), fun z hz => by (cases hz)⟩
  simpa [bstL] using this

theorem inM_fst : ∀ (ls : List (List Ent)), (∀ l ∈ ls, SrtE l) → ∀ x, InM ls x ↔ FstE ls.flatten x
  | [], _, x => by
    constructor
    · intro h; exact h.elim
    · rintro ⟨a, b, h, _⟩; simp at h
  | l :: r, hs, x => by
    have ih := inM_fst r (fun l hl => hs l (List.mem_cons_of_mem _ hl)) x
    have hl := hs l (List.mem_cons_self ..)
    rw [List.flatten_cons]
    constructor
    · rintro (h | ⟨h, h2⟩)
      · obtain ⟨a, b, rfl⟩ := List.append_of_mem h
        refine ⟨a, b ++ r.flatten, by simp, fun z hz => ?_⟩
        exact lessE_not_at ((List.pairwise_append.1 hl).2.2 z hz x (by simp))
      · obtain ⟨a, b, h3, h4⟩ := ih.1 h
        refine ⟨l ++ a, b, by rw [h3]; simp, fun z hz => ?_⟩
        rcases List.mem_append.1 hz with hz | hz
        · exact h2 z hz
        · exact h4 z hz
    · rintro ⟨a, b, h3, h4⟩
      rcases List.append_eq_append_iff.1 h3 with ⟨c, rfl, h5⟩ | ⟨c, rfl, h5⟩
      · refine .inr ⟨ih.2 ⟨c, b, h5, fun z hz => h4 z (by simp [hz])⟩, fun y hy => h4 y (by simp [hy])⟩
      · cases c with
        | nil =>
          simp at h5
          refine .inr ⟨ih.2 ⟨[], b, by simpa using h5.symm, fun z hz => by cases hz⟩, fun y hy => h4 y (by simpa using hy)⟩
        | cons y c =>
          simp at h5
          exact .inl (by simp [h5.1])
/-- What is seen of lists merged: of the map those that are not gone. -/
theorem seen_bst {ls : List (List Ent)} (hs : ∀ l ∈ ls, SrtE l) (up : Nat) (x : Ent) : x ∈ seenE (mrgL ls) up ↔ x ∈ bstL up ls.flatten ∧ x.gone = false := by
  have hm := mrgL_is hs
  have hb := bstL_is up ls.flatten
  rw [mem_seenE hm.srt, hm.mem, inM_fst ls hs]
  have hall : ∀ y, y ∈ mrgL ls → y ∈ ls.flatten := fun y hy => ((inM_fst ls hs y).1 ((hm.mem y).1 hy)).mem
  have hcov : ∀ y ∈ ls.flatten, ∃ z ∈ mrgL ls, atE z y = true := fun y hy => by
    obtain ⟨l, hl, hyl⟩ := List.mem_flatten.1 hy
    obtain ⟨z, hz, ha⟩ := inM_cover hl hyl
    exact ⟨z, (hm.mem z).2 hz, ha⟩
  constructor
  · rintro ⟨h1, h2, h3, h4⟩
    refine ⟨?_, h2⟩
    obtain ⟨e, he, hek⟩ := hb.cov x h1.mem h3
    obtain ⟨g1, g2, g3⟩ := hb.mem e he
    have hle := g3 x h1.mem hek.symm h3
    obtain ⟨z, hz, ha⟩ := hcov e g1.mem
    obtain ⟨k1, k2⟩ := atE_iff.1 ha
    have hge := h4 z hz (k1.trans hek) (by omega)
    have hex : atE e x = true := atE_iff.2 ⟨hek, by omega⟩
    have he1 : e ∈ mrgL ls := (hm.mem e).2 ((inM_fst ls hs e).2 g1)
    have hx1 : x ∈ mrgL ls := (hm.mem x).2 ((inM_fst ls hs x).2 h1)
    have : e = x := by
      obtain ⟨i, hi, rfl⟩ := List.getElem_of_mem he1
      obtain ⟨k, hk, rfl⟩ := List.getElem_of_mem hx1
      rcases Nat.lt_trichotomy i k with hik | hik | hik
      · have := lessE_not_at ((List.pairwise_iff_getElem.1 hm.srt) i k hi hk hik)
        rw [hex] at this; cases this
      · subst hik; rfl
      · have := lessE_not_at ((List.pairwise_iff_getElem.1 hm.srt) k i hk hi hik)
        rw [atE_symm hex] at this; cases this
    rw [← this]; exact he
  · rintro ⟨h1, h2⟩
    obtain ⟨g1, g2, g3⟩ := hb.mem x h1
    exact ⟨g1, h2, g2, fun y hy hk hyu => g3 y (hall y hy) hk hyu⟩
theorem seen_keys {l : List Ent} (hs : SrtE l) (up : Nat) : (seenE l up).Pairwise fun a b => Op.bytesLess a.key b.key = true := by
  have h1 : SrtE (seenE l up) := srt_filter hs _
  have h2 := List.Pairwise.and_mem.1 h1
  refine List.Pairwise.imp (fun {a b} h => ?_) h2
  obtain ⟨ha, hb, hl⟩ := h
  rcases lessE_iff.1 hl with h | ⟨h, g⟩
  · exact h
  · obtain ⟨b1, _, b3, b4⟩ := (mem_seenE hs up b).1 hb
    obtain ⟨a1, _, a3, a4⟩ := (mem_seenE hs up a).1 ha
    have := b4 a a1 h a3
    omega
theorem nodup_len : ∀ (a b : List Ent), a.Nodup → (∀ x ∈ a, x ∈ b) → a.length ≤ b.length
  | [], b, _, _ => by simp
  | x :: r, b, hn, hs => by
    obtain ⟨h1, h2⟩ := List.nodup_cons.1 hn
    obtain ⟨p, q, rfl⟩ := List.append_of_mem (hs x (by simp))
    have := nodup_len r (p ++ q) h2 fun y hy => by
      have := hs y (by simp [hy])
      have hne : y ≠ x := fun e => h1 (e ▸ hy)
      simpa [hne] using this
    simp at this ⊢
    omega
/-- As many as are seen the map has that are not gone. -/
theorem bst_count {ls : List (List Ent)} (hs : ∀ l ∈ ls, SrtE l) (up : Nat) : ((bstL up ls.flatten).filter fun e => !e.gone).length = (seenE (mrgL ls) up).length := by
  have hm := mrgL_is hs
  have hb := bstL_is up ls.flatten
  have n1 : (seenE (mrgL ls) up).Nodup := List.Pairwise.imp (fun {a b} h e => by rw [e, lessE_irrefl] at h; cases h) (srt_filter hm.srt _)
  have n2 : ((bstL up ls.flatten).filter fun e => !e.gone).Nodup := List.Pairwise.filter _ (List.Pairwise.imp (fun {a b} h e => h (by rw [e])) hb.keys)
  refine Nat.le_antisymm (nodup_len _ _ n2 fun x hx => ?_) (nodup_len _ _ n1 fun x hx => ?_)
  · obtain ⟨h1, h2⟩ := List.mem_filter.1 hx
    exact (seen_bst hs up x).2 ⟨h1, by simpa using h2⟩
  · obtain ⟨h1, h2⟩ := (seen_bst hs up x).1 hx
    exact List.mem_filter.2 ⟨h1, by simpa using h2⟩
end Go.Proofs.Ytaomneenflkpeaa
