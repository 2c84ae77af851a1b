/-
  What is seen, what is left by pruning, told plainly: by the whole list, and by its pieces of one key each.
-/
import Derived.Test.YteclnnjijfbfoaaMgP
import Derived.Test.YteclnnjijfbfoaaEnS
namespace Go.Proofs.Yteclnnjijfbfoaa

/-! ### the newest of its key -/
def newB (l : List Ent) (up : Nat) (x : Ent) : Bool := match newestE l x.key up with | some f => atE f x | none => false
theorem vis_new (l : List Ent) (up : Nat) (x : Ent) : visE l up x = (!x.gone && newB l up x) := rfl
theorem newB_iff {l : List Ent} (hs : SrtE l) {x : Ent} (hx : x ∈ l) (up : Nat) : newB l up x = true ↔ x.seq ≤ up ∧ ∀ y ∈ l, y.key = x.key → y.seq ≤ up → y.seq ≤ x.seq := by
  obtain ⟨k, hk, rfl⟩ := List.getElem_of_mem hx
  have h : newB l up l[k] = true ↔ l[k].seq ≤ up ∧ ∀ j, (hj : j < k) → ¬ (l[j].key = l[k].key ∧ l[j].seq ≤ up) := newest_iff hk hs up
  rw [h]
  constructor
  · rintro ⟨h1, h2⟩
    refine ⟨h1, fun y hy hkey hu => ?_⟩
    obtain ⟨j, hj, rfl⟩ := List.getElem_of_mem hy
    rcases Nat.lt_trichotomy j k with hjk | hjk | hjk
    · exact absurd ⟨hkey, hu⟩ (h2 j hjk)
    · subst hjk; exact Nat.le_refl _
    · rcases lessE_iff.1 (srt_at hs hj hjk) with h3 | ⟨_, h3⟩
      · exact absurd hkey.symm (lessB_ne h3)
      · omega
  · rintro ⟨h1, h2⟩
    refine ⟨h1, fun j hj ⟨hkey, hu⟩ => ?_⟩
    have h3 := h2 _ (List.getElem_mem (show j < l.length by omega)) hkey hu
    rcases lessE_iff.1 (srt_at hs hk hj) with h4 | ⟨_, h4⟩
    · exact lessB_ne h4 hkey
    · omega

/-! ### what pruning leaves -/
def prvE (l : List Ent) (keep : Nat) (bot : Bool) (x : Ent) : Bool := decide (keep < x.seq) || (newB l keep x && !(x.gone && bot))
def prnE (l : List Ent) (keep : Nat) (bot : Bool) : List Ent := l.filter (prvE l keep bot)
theorem prv_iff {l : List Ent} (hs : SrtE l) {x : Ent} (hx : x ∈ l) (keep : Nat) (bot : Bool) : prvE l keep bot x = true ↔ keep < x.seq ∨ (x.seq ≤ keep ∧ (∀ y ∈ l, y.key = x.key → y.seq ≤ keep → y.seq ≤ x.seq) ∧ (x.gone && bot) = false) := by
  unfold prvE
  rw [Bool.or_eq_true, decide_eq_true_eq, Bool.and_eq_true, newB_iff hs hx]
  simp only [Bool.not_eq_true']
  constructor
  · rintro (h | ⟨⟨h1, h2⟩, h3⟩)
    · exact .inl h
    · exact .inr ⟨h1, h2, h3⟩
  · rintro (h | ⟨h1, h2, h3⟩)
    · exact .inl h
    · exact .inr ⟨⟨h1, h2⟩, h3⟩
theorem srt_filter {l : List Ent} (h : SrtE l) (p : Ent → Bool) : SrtE (l.filter p) := List.Pairwise.sublist List.filter_sublist h
theorem mem_seenE {l : List Ent} (hs : SrtE l) (up : Nat) (x : Ent) : x ∈ seenE l up ↔ x ∈ l ∧ x.gone = false ∧ x.seq ≤ up ∧ ∀ y ∈ l, y.key = x.key → y.seq ≤ up → y.seq ≤ x.seq := by
  unfold seenE
  rw [List.mem_filter]
  constructor
  · rintro ⟨h1, h2⟩
    rw [vis_new, Bool.and_eq_true, newB_iff hs h1] at h2
    exact ⟨h1, by simpa using h2.1, h2.2⟩
  · rintro ⟨h1, h2, h3⟩
    refine ⟨h1, ?_⟩
    rw [vis_new, Bool.and_eq_true, newB_iff hs h1]
    exact ⟨by simp [h2], h3⟩
theorem mem_prnE {l : List Ent} (hs : SrtE l) (keep : Nat) (bot : Bool) (x : Ent) : x ∈ prnE l keep bot ↔ x ∈ l ∧ (keep < x.seq ∨ (x.seq ≤ keep ∧ (∀ y ∈ l, y.key = x.key → y.seq ≤ keep → y.seq ≤ x.seq) ∧ (x.gone && bot) = false)) := by
  unfold prnE
  rw [List.mem_filter]
  constructor
  · rintro ⟨h1, h2⟩
    exact ⟨h1, (prv_iff hs h1 keep bot).1 h2⟩
  · rintro ⟨h1, h2⟩
    exact ⟨h1, (prv_iff hs h1 keep bot).2 h2⟩

/-! ### the reference's way: one entry behind the other -/
/-- What is left of k entries; whether an entry of the present key was up to the number is told as for what is seen. -/
def prnS (keep : Nat) (bot : Bool) (l : List Ent) : Nat → List Ent
  | 0 => []
  | k + 1 => match l[k]? with
    | none => prnS keep bot l k
    | some e => if keep < e.seq ∨ ((if (match l[k - 1]? with | some f => 0 < k && e.key != f.key | none => false) = true then false else (seenS keep l k).2) = false ∧ (e.gone && bot) = false) then prnS keep bot l k ++ [e] else prnS keep bot l k
theorem prnS_step {l : List Ent} {k : Nat} (hlt : k < l.length) (keep : Nat) (bot : Bool) (d : Bool)
    (hd : (0 < k ∧ (l[k].key == (l[k - 1]'(by omega)).key) = false ∧ d = false) ∨ ((k = 0 ∨ (l[k].key == (l[k - 1]'(by omega)).key) = true) ∧ d = (seenS keep l k).2)) :
    (seenS keep l (k + 1)).2 = (d || decide (l[k].seq ≤ keep)) ∧
    prnS keep bot l (k + 1) = if keep < l[k].seq ∨ (d = false ∧ (l[k].gone && bot) = false) then prnS keep bot l k ++ [l[k]] else prnS keep bot l k := by
  have hd2 : (0 < k ∧ l[k].key ≠ (l[k - 1]'(by omega)).key ∧ d = false) ∨ ((k = 0 ∨ l[k].key = (l[k - 1]'(by omega)).key) ∧ d = (seenS keep l k).2) := by simpa using hd
  have he : (if (match l[k - 1]? with | some f => 0 < k && l[k].key != f.key | none => false) = true then false else (seenS keep l k).2) = d := by
    rw [List.getElem?_eq_getElem (by omega)]
    rcases hd2 with ⟨h0, h1, rfl⟩ | ⟨h, rfl⟩
    · rw [if_pos (by simp [h0, h1])]
    · rw [if_neg]
      rcases h with rfl | h
      · simp
      · simp [h]
  constructor
  · rw [seenS_step hlt keep d hd2]
    by_cases h1 : d = true
    · rw [if_pos (.inl h1)]
      simp [h1]
    · by_cases h2 : keep < l[k].seq
      · rw [if_pos (.inr h2)]
        have : ¬ l[k].seq ≤ keep := by omega
        simp [this]
      · rw [if_neg (fun h => h.elim h1 h2)]
        have : l[k].seq ≤ keep := by omega
        simp [this]
  · rw [← he]
    conv => lhs; unfold prnS
    rw [List.getElem?_eq_getElem hlt]
theorem prnS_is {l : List Ent} (hs : SrtE l) (keep : Nat) (bot : Bool) : ∀ k, k ≤ l.length → prnS keep bot l k = (l.take k).filter (prvE l keep bot)
  | 0, _ => by simp [prnS]
  | k + 1, hk => by
    have hlt : k < l.length := by omega
    have ih := prnS_is hs keep bot k (by omega)
    have hsn := (seenS_is hs keep k (by omega)).2
    -- whether an entry of this key was ahead
    have hex : ∃ d : Bool, ((0 < k ∧ (l[k].key == (l[k - 1]'(by omega)).key) = false ∧ d = false) ∨ ((k = 0 ∨ (l[k].key == (l[k - 1]'(by omega)).key) = true) ∧ d = (seenS keep l k).2)) ∧ (d = true ↔ ∃ j, ∃ (_ : j < k), l[j].key = l[k].key ∧ l[j].seq ≤ keep) := by
      rcases Nat.eq_zero_or_pos k with h0 | h0
      · subst h0
        refine ⟨(seenS keep l 0).2, .inr ⟨.inl rfl, rfl⟩, ?_⟩
        constructor
        · intro h; simp [seenS] at h
        · rintro ⟨j, h1, _⟩; omega
      · rcases hq : (l[k].key == (l[k - 1]'(by omega)).key) with _ | _
        · refine ⟨false, .inl ⟨h0, rfl, rfl⟩, ?_⟩
          constructor
          · intro h; cases h
          · rintro ⟨j, h1, h2, h3⟩
            exfalso
            have hkey : l[k].key ≠ l[k - 1].key := fun e => by rw [e] at hq; simp at hq
            have hl := srt_at hs hlt (i := k - 1) (by omega)
            rcases lessE_iff.1 hl with h4 | ⟨h4, _⟩
            · rcases Nat.lt_or_ge j (k - 1) with h5 | h5
              · have h6 := srt_at hs (show k - 1 < l.length by omega) h5
                rcases lessE_iff.1 h6 with h7 | ⟨h7, _⟩
                · exact lessB_ne (lessB_trans h7 h4) h2
                · rw [← h7] at h4
                  exact lessB_ne h4 h2
              · obtain rfl : j = k - 1 := by omega
                exact hkey h2.symm
            · exact hkey h4.symm
        · have hkey : l[k].key = l[k - 1].key := by simpa using hq
          refine ⟨(seenS keep l k).2, .inr ⟨.inr rfl, rfl⟩, ?_⟩
          rw [hsn]
          constructor
          · rintro ⟨j, ⟨h1, _⟩, h2, h3⟩
            exact ⟨j, h1, h2.trans hkey.symm, h3⟩
          · rintro ⟨j, h1, h2, h3⟩
            exact ⟨j, ⟨h1, by omega⟩, h2.trans hkey, h3⟩
    obtain ⟨d, hd, hdi⟩ := hex
    have htk : l.take (k + 1) = l.take k ++ [l[k]] := by rw [List.take_add_one, List.getElem?_eq_getElem hlt]; rfl
    rw [(prnS_step hlt keep bot d hd).2, htk, List.filter_append, ← ih]
    have hn : newB l keep l[k] = true ↔ l[k].seq ≤ keep ∧ ∀ j, (hj : j < k) → ¬ (l[j].key = l[k].key ∧ l[j].seq ≤ keep) := newest_iff hlt hs keep
    have hp : prvE l keep bot l[k] = true ↔ keep < l[k].seq ∨ (d = false ∧ (l[k].gone && bot) = false) := by
      unfold prvE
      rw [Bool.or_eq_true, decide_eq_true_eq, Bool.and_eq_true, hn]
      simp only [Bool.not_eq_true']
      constructor
      · rintro (h | ⟨⟨h1, h2⟩, h3⟩)
        · exact .inl h
        · refine .inr ⟨?_, h3⟩
          cases d
          · rfl
          · obtain ⟨j, hj, h4⟩ := hdi.1 rfl
            exact absurd h4 (h2 j hj)
      · rintro (h | ⟨h1, h3⟩)
        · exact .inl h
        · by_cases h : keep < l[k].seq
          · exact .inl h
          · refine .inr ⟨⟨by omega, fun j hj h4 => ?_⟩, h3⟩
            have := hdi.2 ⟨j, hj, h4⟩
            rw [h1] at this
            cases this
    by_cases hb : keep < l[k].seq ∨ (d = false ∧ (l[k].gone && bot) = false)
    · rw [if_pos hb]
      simp [hp.2 hb]
    · rw [if_neg hb]
      have : prvE l keep bot l[k] = false := by
        rcases hq : prvE l keep bot l[k] with _ | _
        · rfl
        · exact absurd (hp.1 hq) hb
      simp [this]
theorem prnS_all {l : List Ent} (hs : SrtE l) (keep : Nat) (bot : Bool) : prnS keep bot l l.length = prnE l keep bot := by
  have := prnS_is hs keep bot l.length (Nat.le_refl _)
  rw [List.take_length] at this
  exact this
theorem prnS_len (keep : Nat) (bot : Bool) (l : List Ent) : ∀ k, (prnS keep bot l k).length ≤ k
  | 0 => by simp [prnS]
  | k + 1 => by
    have ih := prnS_len keep bot l k
    unfold prnS
    cases hq : l[k]? with
    | none =>
      dsimp only
      omega
    | some e =>
      have h1 : ∀ c : Prop, [Decidable c] → (if c then prnS keep bot l k ++ [e] else prnS keep bot l k).length ≤ k + 1 := fun c _ => by
        split
        · rw [List.length_append, List.length_singleton]; omega
        · omega
      exact h1 _

/-! ### pieces of one key -/
structure PcsE (l : List Ent) (ps : List (List Ent)) : Prop where
  flat : ps.flatten = l
  same : ∀ p ∈ ps, ∀ x ∈ p, ∀ y ∈ p, x.key = y.key
  apart : ps.Pairwise fun p q => ∀ x ∈ p, ∀ y ∈ q, x.key ≠ y.key
theorem PcsE.whole {l : List Ent} {ps : List (List Ent)} (h : PcsE l ps) {p : List Ent} (hp : p ∈ ps) {x y : Ent} (hx : x ∈ p) (hy : y ∈ l) (hk : y.key = x.key) : y ∈ p := by
  rw [← h.flat] at hy
  obtain ⟨q, hq, hyq⟩ := List.mem_flatten.1 hy
  obtain ⟨i, hi, rfl⟩ := List.getElem_of_mem hp
  obtain ⟨j, hj, rfl⟩ := List.getElem_of_mem hq
  rcases Nat.lt_trichotomy i j with hij | hij | hij
  · exact absurd hk.symm (List.pairwise_iff_getElem.1 h.apart i j hi hj hij x hx y hyq)
  · subst hij; exact hyq
  · exact absurd hk (List.pairwise_iff_getElem.1 h.apart j i hj hi hij y hyq x hx)
theorem mem_flat {ps : List (List Ent)} {p : List Ent} (hp : p ∈ ps) : p.Sublist ps.flatten := by
  induction ps with
  | nil => cases hp
  | cons q r ih =>
    rw [List.flatten_cons]
    rcases List.mem_cons.1 hp with rfl | hp
    · exact List.sublist_append_left _ _
    · exact (ih hp).trans (List.sublist_append_right _ _)
theorem PcsE.srt {l : List Ent} {ps : List (List Ent)} (h : PcsE l ps) (hs : SrtE l) {p : List Ent} (hp : p ∈ ps) : SrtE p := by
  have := mem_flat hp
  rw [h.flat] at this
  exact List.Pairwise.sublist this hs
theorem srt_seq {p : List Ent} (hs : SrtE p) (hk : ∀ x ∈ p, ∀ y ∈ p, x.key = y.key) {i j : Nat} (hj : j < p.length) (hij : i < j) : p[j].seq < (p[i]'(by omega)).seq := by
  rcases lessE_iff.1 (srt_at hs hj hij) with h | ⟨_, h⟩
  · exact absurd (hk _ (List.getElem_mem _) _ (List.getElem_mem _)) (lessB_ne h)
  · exact h
/-- Where the newest up to a number stands, among those of one key. -/
def newN (up : Nat) (p : List Ent) : Nat := (p.takeWhile fun e => decide (up < e.seq)).length
theorem newN_le (up : Nat) (p : List Ent) : newN up p ≤ p.length := takeWhile_le _ p
theorem newN_lo {up : Nat} {p : List Ent} {j : Nat} (h : j < newN up p) (hj : j < p.length) : up < p[j].seq := by
  have := takeWhile_lo _ p j p[j] h (List.getElem?_eq_getElem hj)
  simpa using this
theorem newN_hi {up : Nat} {p : List Ent} (h : newN up p < p.length) : p[newN up p].seq ≤ up := by
  have := takeWhile_hi (fun e : Ent => decide (up < e.seq)) p (p[newN up p]) (List.getElem?_eq_getElem h)
  have h2 : ¬ up < p[newN up p].seq := of_decide_eq_false this
  omega
def seen1 (up : Nat) (p : List Ent) : List Ent := match p[newN up p]? with | some e => if e.gone = true then [] else [e] | none => []
def end1 (keep : Nat) (bot : Bool) (p : List Ent) : Nat := match p[newN keep p]? with | some e => if (e.gone && bot) = true then newN keep p else newN keep p + 1 | none => newN keep p
def prn1 (keep : Nat) (bot : Bool) (p : List Ent) : List Ent := p.take (end1 keep bot p)
theorem end1_le (keep : Nat) (bot : Bool) (p : List Ent) : end1 keep bot p ≤ p.length := by
  unfold end1
  have h := newN_le keep p
  cases hq : p[newN keep p]? with
  | none => simpa using h
  | some e =>
    have := (List.getElem?_eq_some_iff.1 hq).1
    dsimp only
    split <;> omega
theorem mem_seen1 {up : Nat} {p : List Ent} (hs : SrtE p) (hk : ∀ x ∈ p, ∀ y ∈ p, x.key = y.key) (x : Ent) : x ∈ seen1 up p ↔ x ∈ p ∧ x.gone = false ∧ x.seq ≤ up ∧ ∀ y ∈ p, y.seq ≤ up → y.seq ≤ x.seq := by
  unfold seen1
  constructor
  · intro hx
    cases hq : p[newN up p]? with
    | none => rw [hq] at hx; cases hx
    | some e =>
      rw [hq] at hx
      obtain ⟨hn, he⟩ := List.getElem?_eq_some_iff.1 hq
      dsimp only at hx
      split at hx
      · cases hx
      · rename_i hg
        obtain rfl := List.mem_singleton.1 hx
        subst he
        refine ⟨List.getElem_mem hn, by simpa using hg, newN_hi hn, fun y hy hu => ?_⟩
        obtain ⟨j, hj, rfl⟩ := List.getElem_of_mem hy
        rcases Nat.lt_trichotomy j (newN up p) with h | h | h
        · have := newN_lo h hj; omega
        · simp [h]
        · exact Nat.le_of_lt (srt_seq hs hk hj h)
  · rintro ⟨hx, hg, hu, hy⟩
    obtain ⟨i, hi, rfl⟩ := List.getElem_of_mem hx
    have hin : newN up p ≤ i := by
      rcases Nat.lt_or_ge i (newN up p) with h | h
      · have := newN_lo h hi; omega
      · exact h
    have hn : newN up p < p.length := by omega
    have h1 := hy _ (List.getElem_mem hn) (newN_hi hn)
    have hii : newN up p = i := by
      rcases Nat.lt_or_ge (newN up p) i with h | h
      · have := srt_seq hs hk hi h; omega
      · omega
    rw [hii, List.getElem?_eq_getElem hi]
    simp [hg]
theorem mem_prn1 {keep : Nat} {bot : Bool} {p : List Ent} (hs : SrtE p) (hk : ∀ x ∈ p, ∀ y ∈ p, x.key = y.key) (x : Ent) :
    x ∈ prn1 keep bot p ↔ x ∈ p ∧ (keep < x.seq ∨ (x.seq ≤ keep ∧ (∀ y ∈ p, y.seq ≤ keep → y.seq ≤ x.seq) ∧ (x.gone && bot) = false)) := by
  unfold prn1
  constructor
  · intro hx
    obtain ⟨i, hi, rfl⟩ := List.getElem_of_mem hx
    rw [List.length_take] at hi
    rw [List.getElem_take]
    have hil : i < p.length := by omega
    refine ⟨List.getElem_mem hil, ?_⟩
    rcases Nat.lt_or_ge i (newN keep p) with h | h
    · exact .inl (newN_lo h hil)
    · right
      have hn : newN keep p < p.length := by omega
      have he : i < end1 keep bot p := by omega
      unfold end1 at he
      rw [List.getElem?_eq_getElem hn] at he
      dsimp only at he
      split at he
      · omega
      · rename_i hg
        have hin : newN keep p = i := by omega
        subst hin
        refine ⟨newN_hi hn, fun y hy hu => ?_, by simpa using hg⟩
        obtain ⟨j, hj, rfl⟩ := List.getElem_of_mem hy
        rcases Nat.lt_trichotomy j (newN keep p) with h | h | h
        · have := newN_lo h hj; omega
        · simp [h]
        · exact Nat.le_of_lt (srt_seq hs hk hj h)
  · rintro ⟨hx, h⟩
    obtain ⟨i, hi, rfl⟩ := List.getElem_of_mem hx
    have hlt : i < end1 keep bot p := by
      rcases h with h | ⟨hu, hy, hg⟩
      · have hin : i < newN keep p := by
          rcases Nat.lt_or_ge i (newN keep p) with h2 | h2
          · exact h2
          · have hn : newN keep p < p.length := by omega
            have h3 := newN_hi hn
            rcases Nat.lt_or_ge (newN keep p) i with h4 | h4
            · have := srt_seq hs hk hi h4; omega
            · have h5 : newN keep p = i := by omega
              have : p[newN keep p].seq = p[i].seq := by simp only [h5]
              omega
        unfold end1
        split
        · split <;> omega
        · exact hin
      · have hin : newN keep p ≤ i := by
          rcases Nat.lt_or_ge i (newN keep p) with h | h
          · have := newN_lo h hi; omega
          · exact h
        have hn : newN keep p < p.length := by omega
        have h1 := hy _ (List.getElem_mem hn) (newN_hi hn)
        have hii : newN keep p = i := by
          rcases Nat.lt_or_ge (newN keep p) i with h | h
          · have := srt_seq hs hk hi h; omega
          · omega
        unfold end1
        rw [hii, List.getElem?_eq_getElem hi]
        simp [hg]
    refine List.mem_of_getElem? (i := i) ?_
    rw [List.getElem?_take_of_lt hlt, List.getElem?_eq_getElem hi]
theorem flatMap_sub {f : List Ent → List Ent} (hf : ∀ p, (f p).Sublist p) : ∀ ps : List (List Ent), (ps.flatMap f).Sublist ps.flatten
  | [] => by simp
  | p :: r => by
    rw [List.flatMap_cons, List.flatten_cons]
    exact (hf p).append (flatMap_sub hf r)
theorem seen1_sub (up : Nat) (p : List Ent) : (seen1 up p).Sublist p := by
  unfold seen1
  cases hq : p[newN up p]? with
  | none => simp
  | some e =>
    dsimp only
    split
    · simp
    · exact List.singleton_sublist.2 (List.mem_of_getElem? hq)
theorem prn1_sub (keep : Nat) (bot : Bool) (p : List Ent) : (prn1 keep bot p).Sublist p := List.take_sublist _ _
theorem seen_pcs {l : List Ent} {ps : List (List Ent)} (hs : SrtE l) (h : PcsE l ps) (up : Nat) : ps.flatMap (seen1 up) = seenE l up := by
  refine srt_ext ?_ (srt_filter hs _) fun x => ?_
  · have := flatMap_sub (seen1_sub up) ps
    rw [h.flat] at this
    exact List.Pairwise.sublist this hs
  · rw [List.mem_flatMap, mem_seenE hs]
    constructor
    · rintro ⟨p, hp, hx⟩
      obtain ⟨h1, h2, h3, h4⟩ := (mem_seen1 (h.srt hs hp) (h.same p hp) x).1 hx
      have hxl : x ∈ l := by rw [← h.flat]; exact List.mem_flatten.2 ⟨p, hp, h1⟩
      exact ⟨hxl, h2, h3, fun y hy hk hu => h4 y (h.whole hp h1 hy hk) hu⟩
    · rintro ⟨h1, h2, h3, h4⟩
      have hx := h1
      rw [← h.flat] at hx
      obtain ⟨p, hp, hxp⟩ := List.mem_flatten.1 hx
      refine ⟨p, hp, (mem_seen1 (h.srt hs hp) (h.same p hp) x).2 ⟨hxp, h2, h3, fun y hy hu => h4 y ?_ (h.same p hp y hy x hxp) hu⟩⟩
      rw [← h.flat]
      exact List.mem_flatten.2 ⟨p, hp, hy⟩
theorem prn_pcs {l : List Ent} {ps : List (List Ent)} (hs : SrtE l) (h : PcsE l ps) (keep : Nat) (bot : Bool) : ps.flatMap (prn1 keep bot) = prnE l keep bot := by
  refine srt_ext ?_ (srt_filter hs _) fun x => ?_
  · have := flatMap_sub (prn1_sub keep bot) ps
    rw [h.flat] at this
    exact List.Pairwise.sublist this hs
  · rw [List.mem_flatMap, mem_prnE hs]
    constructor
    · rintro ⟨p, hp, hx⟩
      obtain ⟨h1, h2⟩ := (mem_prn1 (h.srt hs hp) (h.same p hp) x).1 hx
      have hxl : x ∈ l := by rw [← h.flat]; exact List.mem_flatten.2 ⟨p, hp, h1⟩
      refine ⟨hxl, h2.imp id fun ⟨h3, h4, h5⟩ => ⟨h3, fun y hy hk hu => h4 y (h.whole hp h1 hy hk) hu, h5⟩⟩
    · rintro ⟨h1, h2⟩
      have hx := h1
      rw [← h.flat] at hx
      obtain ⟨p, hp, hxp⟩ := List.mem_flatten.1 hx
      refine ⟨p, hp, (mem_prn1 (h.srt hs hp) (h.same p hp) x).2 ⟨hxp, h2.imp id fun ⟨h3, h4, h5⟩ => ⟨h3, fun y hy hu => h4 y ?_ (h.same p hp y hy x hxp) hu, h5⟩⟩⟩
      rw [← h.flat]
      exact List.mem_flatten.2 ⟨p, hp, hy⟩

/-! ### how the pieces come -/
/-- Keys stand in order: what stands between two of one key has it too. -/
theorem key_between {l : List Ent} (hs : SrtE l) {a m c : Nat} (hc : c < l.length) (ham : a ≤ m) (hmc : m ≤ c) (hk : (l[a]'(by omega)).key = l[c].key) : (l[m]'(by omega)).key = l[c].key := by
  rcases Nat.eq_or_lt_of_le ham with h | h
  · subst h; exact hk
  · rcases Nat.eq_or_lt_of_le hmc with h2 | h2
    · subst h2; rfl
    · rcases lessE_iff.1 (srt_at hs (show m < l.length by omega) h) with h3 | ⟨h3, _⟩
      · rcases lessE_iff.1 (srt_at hs hc h2) with h4 | ⟨h4, _⟩
        · exact absurd hk (lessB_ne (lessB_trans h3 h4))
        · exact h4
      · exact h3.symm.trans hk
/-- Behind i entries: the pieces that are told end at b, and from there on to i all have one key. -/
structure PcI (l : List Ent) (ps : List (List Ent)) (b i : Nat) : Prop where
  hb : b ≤ i
  hi : i ≤ l.length
  zero : i = b → i = 0
  pcs : PcsE (l.take b) ps
  one : ∀ j, (hj : j < i) → b ≤ j → (l[j]'(by omega)).key = (l[b]'(by omega)).key
  far : ∀ x ∈ l.take b, ∀ y ∈ l.drop b, x.key ≠ y.key
theorem PcI.start (l : List Ent) : PcI l [] 0 0 := ⟨by omega, by omega, fun _ => rfl, ⟨by simp, (fun p hp => by cases hp), List.Pairwise.nil⟩, (fun j hj => by omega), (fun x hx => by simp at hx)⟩
def pcE (l : List Ent) (b i : Nat) : List Ent := (l.drop b).take (i - b)
theorem mem_pcE {l : List Ent} {b i : Nat} (hi : i ≤ l.length) {x : Ent} (h : x ∈ pcE l b i) : ∃ j, ∃ (_ : b ≤ j ∧ j < i), (l[j]'(by omega)) = x := by
  unfold pcE at h
  obtain ⟨d, hd, rfl⟩ := List.getElem_of_mem h
  rw [List.length_take, List.length_drop] at hd
  refine ⟨b + d, ⟨by omega, by omega⟩, ?_⟩
  rw [List.getElem_take, List.getElem_drop]
theorem take_pcE {l : List Ent} {b i : Nat} (hb : b ≤ i) : l.take i = l.take b ++ pcE l b i := by
  unfold pcE
  obtain ⟨d, rfl⟩ := Nat.exists_eq_add_of_le hb
  rw [List.take_add, show b + d - b = d by omega]
theorem PcI.told {l : List Ent} {ps : List (List Ent)} {b i : Nat} (h : PcI l ps b i) : PcsE (l.take i) (ps ++ [pcE l b i]) := by
  refine ⟨by rw [List.flatten_append, h.pcs.flat, take_pcE h.hb]; simp, fun p hp x hx y hy => ?_, ?_⟩
  · rcases List.mem_append.1 hp with hp | hp
    · exact h.pcs.same p hp x hx y hy
    · obtain rfl := List.mem_singleton.1 hp
      obtain ⟨j, ⟨h1, h2⟩, rfl⟩ := mem_pcE h.hi hx
      obtain ⟨j', ⟨h3, h4⟩, rfl⟩ := mem_pcE h.hi hy
      exact (h.one j h2 h1).trans (h.one j' h4 h3).symm
  · rw [List.pairwise_append]
    refine ⟨h.pcs.apart, by simp, fun p hp q hq x hx y hy => ?_⟩
    obtain rfl := List.mem_singleton.1 hq
    refine h.far x ?_ y ?_
    · rw [← h.pcs.flat]; exact List.mem_flatten.2 ⟨p, hp, hx⟩
    · exact List.mem_of_mem_take hy
/-- The next entry has the same key. -/
theorem PcI.on {l : List Ent} {ps : List (List Ent)} {b i : Nat} (h : PcI l ps b i) (hi : i < l.length) (hk : i = b ∨ l[i].key = (l[b]'(by have := h.hb; omega)).key) : PcI l ps b (i + 1) := by
  refine ⟨by have := h.hb; omega, by omega, fun e => by have := h.hb; omega, h.pcs, fun j hj hb => ?_, h.far⟩
  rcases Nat.lt_or_ge j i with h1 | h1
  · exact h.one j h1 hb
  · obtain rfl : j = i := by omega
    rcases hk with rfl | hk
    · rfl
    · exact hk
/-- The next entry has another key: a piece is told. -/
theorem PcI.cut {l : List Ent} {ps : List (List Ent)} {b i : Nat} (hs : SrtE l) (h : PcI l ps b i) (hi : i < l.length) (hb : b < i) (hk : l[i].key ≠ (l[b]'(by omega)).key) : PcI l (ps ++ [pcE l b i]) i (i + 1) := by
  refine ⟨by omega, by omega, fun e => by omega, h.told, fun j hj hbj => ?_, fun x hx y hy e => ?_⟩
  · obtain rfl : j = i := by omega
    rfl
  · obtain ⟨a, ha, rfl⟩ := List.getElem_of_mem hx
    obtain ⟨c, hc, rfl⟩ := List.getElem_of_mem hy
    rw [List.length_take] at ha
    rw [List.length_drop] at hc
    rw [List.getElem_take, List.getElem_drop] at e
    have h1 := key_between hs (a := a) (m := i - 1) (c := i + c) (by omega) (by omega) (by omega) e
    have h2 := key_between hs (a := a) (m := i) (c := i + c) (by omega) (by omega) (by omega) e
    exact hk (h2.trans (h1.symm.trans (h.one (i - 1) (by omega) (by omega))))
theorem PcI.all {l : List Ent} {ps : List (List Ent)} {b : Nat} (h : PcI l ps b l.length) : PcsE l (ps ++ [pcE l b l.length]) := by
  have := h.told
  rwa [List.take_length] at this
theorem pcE_all (l : List Ent) (b : Nat) : pcE l b l.length = l.drop b := by
  unfold pcE
  rw [List.take_of_length_le (by rw [List.length_drop]; omega)]
end Go.Proofs.Yteclnnjijfbfoaa
