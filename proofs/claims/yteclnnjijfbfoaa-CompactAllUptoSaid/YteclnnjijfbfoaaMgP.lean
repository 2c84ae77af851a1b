/-
  Lists of versions merged, told plainly: what stands in the merged list, and that this is one list alone; heads of sources, the least of them; what is left when the heads at a place are passed.
-/
import Derived.Test.YteclnnjijfbfoaaMeP
namespace Go.Proofs.Yteclnnjijfbfoaa

/-! ### what stands in the merged list -/
def InM : List (List Ent) → Ent → Prop
  | [], _ => False
  | l :: r, x => x ∈ l ∨ (InM r x ∧ ∀ y ∈ l, atE y x = false)
def farE (ls : List (List Ent)) (x : Ent) : Prop := ∀ l ∈ ls, ∀ y ∈ l, atE y x = false
theorem inM_append : ∀ (a b : List (List Ent)) (x : Ent), InM (a ++ b) x ↔ InM a x ∨ (InM b x ∧ farE a x)
  | [], b, x => by simp [InM, farE]
  | l :: r, b, x => by
    have ih := inM_append r b x
    have e : farE (l :: r) x ↔ (∀ y ∈ l, atE y x = false) ∧ farE r x := by simp [farE]
    simp only [List.cons_append, InM, ih, e]
    constructor
    · rintro (h | ⟨h | ⟨h, h2⟩, h3⟩)
      · exact .inl (.inl h)
      · exact .inl (.inr ⟨h, h3⟩)
      · exact .inr ⟨h, h3, h2⟩
    · rintro ((h | ⟨h, h3⟩) | ⟨h, h3, h2⟩)
      · exact .inl h
      · exact .inr ⟨.inl h, h3⟩
      · exact .inr ⟨.inr ⟨h, h2⟩, h3⟩
theorem inM_mem : ∀ {ls : List (List Ent)} {x : Ent}, InM ls x → ∃ l ∈ ls, x ∈ l
  | [], _, h => h.elim
  | l :: r, x, h => by
    rcases h with h | ⟨h, _⟩
    · exact ⟨l, by simp, h⟩
    · obtain ⟨k, hk, hx⟩ := inM_mem h
      exact ⟨k, by simp [hk], hx⟩
theorem inM_cover : ∀ {ls : List (List Ent)} {l : List Ent} {y : Ent}, l ∈ ls → y ∈ l → ∃ z, InM ls z ∧ atE z y = true
  | [], _, _, h, _ => by cases h
  | k :: r, l, y, h, hy => by
    by_cases hk : ∃ w ∈ k, atE w y = true
    · obtain ⟨w, hw, ha⟩ := hk
      exact ⟨w, .inl hw, ha⟩
    · have hno : ∀ w ∈ k, atE w y = false := fun w hw => by
        rcases e : atE w y with _ | _
        · rfl
        · exact absurd ⟨w, hw, e⟩ hk
      rcases List.mem_cons.1 h with rfl | h
      · exact absurd ⟨y, hy, atE_refl y⟩ hk
      · obtain ⟨z, hz, ha⟩ := inM_cover h hy
        refine ⟨z, .inr ⟨hz, fun w hw => ?_⟩, ha⟩
        rcases e : atE w z with _ | _
        · rfl
        · have := hno w hw
          rw [atE_trans e ha] at this
          cases this
theorem far_iff (ls : List (List Ent)) (x : Ent) : farE ls x ↔ ∀ z, InM ls z → atE z x = false := by
  constructor
  · intro h z hz
    obtain ⟨l, hl, hzl⟩ := inM_mem hz
    exact h l hl z hzl
  · intro h l hl y hy
    obtain ⟨z, hz, ha⟩ := inM_cover hl hy
    rcases e : atE y x with _ | _
    · rfl
    · have := h z hz
      rw [atE_trans ha e] at this
      cases this
structure MgE (ls : List (List Ent)) (m : List Ent) : Prop where
  srt : SrtE m
  mem : ∀ x, x ∈ m ↔ InM ls x
theorem MgE.uniq {ls : List (List Ent)} {a b : List Ent} (h : MgE ls a) (k : MgE ls b) : a = b := srt_ext h.srt k.srt fun x => (h.mem x).trans (k.mem x).symm
theorem MgE.nil : MgE [] [] := ⟨by simp [SrtE], fun x => by simp [InM]⟩

/-! ### two lists, many lists -/
def addL (m : List Ent) (y : Ent) : List Ent := if foundE y m = true then m else putL m y
theorem srt_addL {m : List Ent} (h : SrtE m) (y : Ent) : SrtE (addL m y) := by
  unfold addL
  split
  · exact h
  · exact srt_putL h y
theorem mem_addL {m : List Ent} (h : SrtE m) (y x : Ent) : x ∈ addL m y ↔ x ∈ m ∨ (x = y ∧ ∀ z ∈ m, atE z y = false) := by
  unfold addL
  split
  · rename_i hf
    obtain ⟨f, hf1, hf2⟩ := (found_iff h y).1 hf
    constructor
    · exact .inl
    · rintro (hx | ⟨rfl, hx⟩)
      · exact hx
      · rw [hx f hf1] at hf2; cases hf2
  · rename_i hf
    have hno : ∀ z ∈ m, atE z y = false := fun z hz => by
      rcases e : atE z y with _ | _
      · rfl
      · exact absurd ((found_iff h y).2 ⟨z, hz, e⟩) hf
    rw [mem_putL h]
    constructor
    · rintro (rfl | ⟨hx, _⟩)
      · exact .inr ⟨rfl, hno⟩
      · exact .inl hx
    · rintro (hx | ⟨rfl, _⟩)
      · exact .inr ⟨hx, hno x hx⟩
      · exact .inl rfl
def twoL (a b : List Ent) : List Ent := b.foldl addL a
theorem twoL_spec : ∀ (b a : List Ent), SrtE a → SrtE b → SrtE (twoL a b) ∧ ∀ x, x ∈ twoL a b ↔ x ∈ a ∨ (x ∈ b ∧ ∀ z ∈ a, atE z x = false)
  | [], a, ha, _ => ⟨ha, fun x => by simp [twoL]⟩
  | y :: r, a, ha, hb => by
    obtain ⟨hb1, hb2⟩ := List.pairwise_cons.1 hb
    obtain ⟨h1, h2⟩ := twoL_spec r (addL a y) (srt_addL ha y) hb2
    have e : twoL a (y :: r) = twoL (addL a y) r := rfl
    rw [e]
    refine ⟨h1, fun x => ?_⟩
    rw [h2 x, mem_addL ha]
    have hall : x ∈ r → ((∀ z ∈ addL a y, atE z x = false) ↔ ∀ z ∈ a, atE z x = false) := fun hx => by
      constructor
      · intro h z hz
        exact h z ((mem_addL ha y z).2 (.inl hz))
      · intro h z hz
        rcases (mem_addL ha y z).1 hz with hz | ⟨rfl, _⟩
        · exact h z hz
        · exact lessE_not_at (hb1 x hx)
    constructor
    · rintro ((h | ⟨rfl, h⟩) | ⟨h, h3⟩)
      · exact .inl h
      · exact .inr ⟨by simp, h⟩
      · exact .inr ⟨by simp [h], (hall h).1 h3⟩
    · rintro (h | ⟨h, h3⟩)
      · exact .inl (.inl h)
      · rcases List.mem_cons.1 h with rfl | h
        · exact .inl (.inr ⟨rfl, h3⟩)
        · exact .inr ⟨h, (hall h).2 h3⟩
def mrgL (ls : List (List Ent)) : List Ent := ls.foldl twoL []
theorem MgE.snoc {ls : List (List Ent)} {m l : List Ent} (h : MgE ls m) (hl : SrtE l) : MgE (ls ++ [l]) (twoL m l) := by
  obtain ⟨h1, h2⟩ := twoL_spec l m h.srt hl
  refine ⟨h1, fun x => ?_⟩
  rw [h2 x, inM_append, h.mem x, far_iff]
  simp only [InM, false_and, or_false]
  constructor
  · rintro (h3 | ⟨h3, h4⟩)
    · exact .inl h3
    · exact .inr ⟨h3, fun z hz => h4 z ((h.mem z).2 hz)⟩
  · rintro (h3 | ⟨h3, h4⟩)
    · exact .inl h3
    · exact .inr ⟨h3, fun z hz => h4 z ((h.mem z).1 hz)⟩
theorem mrgL_from : ∀ (ls pre : List (List Ent)) (m : List Ent), MgE pre m → (∀ l ∈ ls, SrtE l) → MgE (pre ++ ls) (ls.foldl twoL m)
  | [], pre, m, h, _ => by simpa using h
  | l :: r, pre, m, h, hs => by
    have := mrgL_from r (pre ++ [l]) (twoL m l) (h.snoc (hs l (by simp))) (fun k hk => hs k (by simp [hk]))
    simpa using this
theorem mrgL_is {ls : List (List Ent)} (hs : ∀ l ∈ ls, SrtE l) : MgE ls (mrgL ls) := by
  have := mrgL_from ls [] [] .nil hs
  rw [List.nil_append] at this
  exact this
theorem mrgL_snoc (ls : List (List Ent)) (l : List Ent) : mrgL (ls ++ [l]) = twoL (mrgL ls) l := by simp [mrgL]

/-! ### from the front of two lists (the reference's way) -/
theorem lessE_drop {a : List Ent} (ha : SrtE a) {i : Nat} (hi : i < a.length) {x y : Ent} (h : lessE x a[i] = true ∨ atE x a[i] = true) (hy : y ∈ a.drop (i + 1)) : lessE x y = true := by
  obtain ⟨j, hj, rfl⟩ := List.getElem_of_mem hy
  rw [List.length_drop] at hj
  have h1 := srt_at ha (show i + 1 + j < a.length by omega) (show i < i + 1 + j by omega)
  rw [List.getElem_drop]
  rcases h with h | h
  · exact lessE_trans h h1
  · rw [lessE_at_left h]; exact h1
/-- Behind i of one and k of the other: what has been told. -/
structure TwoS (a b : List Ent) (i k : Nat) (out : List Ent) : Prop where
  srt : SrtE out
  mem : ∀ x, x ∈ out ↔ x ∈ a.take i ∨ (x ∈ b.take k ∧ ∀ z ∈ a, atE z x = false)
  low : ∀ x ∈ out, (∀ y ∈ a.drop i, lessE x y = true) ∧ (∀ y ∈ b.drop k, lessE x y = true)
theorem TwoS.zero (a b : List Ent) : TwoS a b 0 0 [] := ⟨by simp [SrtE], fun x => by simp, fun x hx => by cases hx⟩
theorem srt_snoc {l : List Ent} {x : Ent} (h : SrtE l) (hx : ∀ y ∈ l, lessE y x = true) : SrtE (l ++ [x]) := by
  unfold SrtE at *
  rw [List.pairwise_append]
  exact ⟨h, by simp, fun y hy z hz => by rw [List.mem_singleton.1 hz]; exact hx y hy⟩
theorem mem_take_succ {l : List Ent} {i : Nat} (hi : i < l.length) (x : Ent) : x ∈ l.take (i + 1) ↔ x ∈ l.take i ∨ x = l[i] := by
  rw [List.take_succ_eq_append_getElem hi, List.mem_append, List.mem_singleton]
theorem mem_drop_self {l : List Ent} {i : Nat} (hi : i < l.length) : l[i] ∈ l.drop i := by
  rw [List.drop_eq_getElem_cons hi]; exact List.mem_cons_self
theorem mem_drop_of {l : List Ent} {i j : Nat} (hj : j < l.length) (hij : i ≤ j) : l[j] ∈ l.drop i := by
  obtain ⟨d, rfl⟩ := Nat.exists_eq_add_of_le hij
  refine List.mem_of_getElem? (i := d) ?_
  rw [List.getElem?_drop, List.getElem?_eq_getElem hj]
theorem mem_split {l : List Ent} (i : Nat) {x : Ent} (h : x ∈ l) : x ∈ l.take i ∨ x ∈ l.drop i := by
  rw [← List.take_append_drop i l] at h
  exact List.mem_append.1 h
theorem drop_sub {l : List Ent} {i : Nat} {x : Ent} (h : x ∈ l.drop (i + 1)) : x ∈ l.drop i := by
  rw [← List.drop_drop] at h
  exact List.mem_of_mem_drop h
/-- The one's next is told. -/
theorem TwoS.left {a b : List Ent} {i k : Nat} {out : List Ent} (h : TwoS a b i k out) (ha : SrtE a) (hb : SrtE b) (hi : i < a.length) (hlt : ∀ h : k < b.length, lessE a[i] b[k] = true) : TwoS a b (i + 1) k (out ++ [a[i]]) := by
  have hk : ∀ y ∈ b.drop k, lessE a[i] y = true := fun y hy => by
    obtain ⟨j, hj, rfl⟩ := List.getElem_of_mem hy
    rw [List.length_drop] at hj
    rw [List.getElem_drop]
    have h0 := hlt (by omega)
    rcases Nat.eq_zero_or_pos j with rfl | hj0
    · exact h0
    · exact lessE_trans h0 (srt_at hb (by omega) (by omega))
  refine ⟨srt_snoc h.srt fun y hy => (h.low y hy).1 _ (mem_drop_self hi), fun x => ?_, fun x hx => ?_⟩
  · rw [List.mem_append, h.mem x, List.mem_singleton, mem_take_succ hi]
    constructor
    · rintro ((h1 | h1) | h1)
      · exact .inl (.inl h1)
      · exact .inr h1
      · exact .inl (.inr h1)
    · rintro ((h1 | h1) | h1)
      · exact .inl (.inl h1)
      · exact .inr h1
      · exact .inl (.inr h1)
  · rcases List.mem_append.1 hx with hx | hx
    · exact ⟨fun y hy => (h.low x hx).1 y (drop_sub hy), (h.low x hx).2⟩
    · obtain rfl := List.mem_singleton.1 hx
      exact ⟨fun y hy => lessE_drop ha hi (.inr (atE_refl _)) hy, hk⟩
/-- Both have one of the same place: the one's is told. -/
theorem TwoS.both {a b : List Ent} {i k : Nat} {out : List Ent} (h : TwoS a b i k out) (ha : SrtE a) (hb : SrtE b) (hi : i < a.length) (hk : k < b.length) (heq : atE a[i] b[k] = true) : TwoS a b (i + 1) (k + 1) (out ++ [a[i]]) := by
  refine ⟨srt_snoc h.srt fun y hy => (h.low y hy).1 _ (mem_drop_self hi), fun x => ?_, fun x hx => ?_⟩
  · rw [List.mem_append, h.mem x, List.mem_singleton, mem_take_succ hi, mem_take_succ hk]
    constructor
    · rintro ((h1 | ⟨h1, h2⟩) | h1)
      · exact .inl (.inl h1)
      · exact .inr ⟨.inl h1, h2⟩
      · exact .inl (.inr h1)
    · rintro ((h1 | h1) | ⟨h1 | rfl, h2⟩)
      · exact .inl (.inl h1)
      · exact .inr h1
      · exact .inl (.inr ⟨h1, h2⟩)
      · have := h2 _ (List.getElem_mem hi)
        rw [heq] at this
        cases this
  · rcases List.mem_append.1 hx with hx | hx
    · exact ⟨fun y hy => (h.low x hx).1 y (drop_sub hy), fun y hy => (h.low x hx).2 y (drop_sub hy)⟩
    · obtain rfl := List.mem_singleton.1 hx
      exact ⟨fun y hy => lessE_drop ha hi (.inr (atE_refl _)) hy, fun y hy => lessE_drop hb hk (.inr heq) hy⟩
/-- The other's next is told. -/
theorem TwoS.right {a b : List Ent} {i k : Nat} {out : List Ent} (h : TwoS a b i k out) (ha : SrtE a) (hb : SrtE b) (hk : k < b.length) (hlt : ∀ h : i < a.length, lessE b[k] a[i] = true) : TwoS a b i (k + 1) (out ++ [b[k]]) := by
  have hi : ∀ y ∈ a.drop i, lessE b[k] y = true := fun y hy => by
    obtain ⟨j, hj, rfl⟩ := List.getElem_of_mem hy
    rw [List.length_drop] at hj
    rw [List.getElem_drop]
    have h0 := hlt (by omega)
    rcases Nat.eq_zero_or_pos j with rfl | hj0
    · exact h0
    · exact lessE_trans h0 (srt_at ha (by omega) (by omega))
  have hfar : ∀ z ∈ a, atE z b[k] = false := fun z hz => by
    rcases mem_split i hz with hz | hz
    · exact lessE_not_at ((h.low z ((h.mem z).2 (.inl hz))).2 _ (mem_drop_self hk))
    · rcases e : atE z b[k] with _ | _
      · rfl
      · have := lessE_not_at (hi z hz)
        rw [atE_symm e] at this
        cases this
  refine ⟨srt_snoc h.srt fun y hy => (h.low y hy).2 _ (mem_drop_self hk), fun x => ?_, fun x hx => ?_⟩
  · rw [List.mem_append, h.mem x, List.mem_singleton, mem_take_succ hk]
    constructor
    · rintro ((h1 | ⟨h1, h2⟩) | rfl)
      · exact .inl h1
      · exact .inr ⟨.inl h1, h2⟩
      · exact .inr ⟨.inr rfl, hfar⟩
    · rintro (h1 | ⟨h1 | rfl, h2⟩)
      · exact .inl (.inl h1)
      · exact .inl (.inr ⟨h1, h2⟩)
      · exact .inr rfl
  · rcases List.mem_append.1 hx with hx | hx
    · exact ⟨(h.low x hx).1, fun y hy => (h.low x hx).2 y (drop_sub hy)⟩
    · obtain rfl := List.mem_singleton.1 hx
      exact ⟨hi, fun y hy => lessE_drop hb hk (.inr (atE_refl _)) hy⟩
theorem TwoS.all {a b out : List Ent} (h : TwoS a b a.length b.length out) (ha : SrtE a) (hb : SrtE b) : out = twoL a b := by
  obtain ⟨h1, h2⟩ := twoL_spec b a ha hb
  refine srt_ext h.srt h1 fun x => ?_
  rw [h.mem x, h2 x, List.take_length, List.take_length]
end Go.Proofs.Yteclnnjijfbfoaa
