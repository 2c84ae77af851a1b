/-
  For the laws on tables in memory, plainly: the order in which versions come does not matter; what is seen of all versions, and what is newest.
-/
import Derived.Test.YteclnnjijfbfoaaRPp
namespace Go.Proofs.Yteclnnjijfbfoaa

/-! ### the order of coming -/
def putL (l : List Ent) (e : Ent) : List Ent := if foundE e l = true then l.set (plcE e l) e else l.take (plcE e l) ++ e :: l.drop (plcE e l)
theorem putT_L (T : PTb) (e : Ent) : (putT T e).L = putL T.L e := by
  unfold putT putL
  split <;> rfl
def putsL (l : List Ent) (es : List Ent) : List Ent := es.foldl (fun l e => putL l (normE e)) l
theorem putsL_snoc (l es : List Ent) (e : Ent) : putsL l (es ++ [e]) = putL (putsL l es) (normE e) := by simp [putsL]
theorem srt_putL {l : List Ent} (h : SrtE l) (e : Ent) : SrtE (putL l e) := by
  unfold putL
  split
  · rename_i hf
    exact srt_set h hf
  · rename_i hf
    exact srt_ins h (by simpa using hf)
/-- Of one sorted list at most one version stands at a place. -/
theorem srt_one {l : List Ent} (h : SrtE l) {a b : Ent} (ha : a ∈ l) (hb : b ∈ l) (e : atE a b = true) : a = b := by
  obtain ⟨i, hi, rfl⟩ := List.getElem_of_mem ha
  obtain ⟨j, hj, rfl⟩ := List.getElem_of_mem hb
  rcases Nat.lt_trichotomy i j with hij | hij | hij
  · have := srt_at h hj hij
    rw [lessE_not_at this] at e
    cases e
  · subst hij; rfl
  · have h1 := lessE_not_at (srt_at h hi hij)
    rw [atE_symm e] at h1
    cases h1
theorem found_iff {l : List Ent} (h : SrtE l) (e : Ent) : foundE e l = true ↔ ∃ f ∈ l, atE f e = true := by
  constructor
  · intro hf
    unfold foundE at hf
    cases hq : l[plcE e l]? with
    | none => rw [hq] at hf; cases hf
    | some f =>
      rw [hq] at hf
      exact ⟨f, List.mem_of_getElem? hq, hf⟩
  · rintro ⟨f, hf, ha⟩
    obtain ⟨i, hi, rfl⟩ := List.getElem_of_mem hf
    have hp : plcE e l = i := plcE_is e l i (Nat.le_of_lt hi) (fun j g hj hg => by
      have hjl := (List.getElem?_eq_some_iff.1 hg).1
      have := srt_at h hi hj
      rw [List.getElem?_eq_getElem hjl] at hg
      obtain rfl := Option.some.inj hg
      rw [← lessE_at_right ha]
      exact this) (fun g hg => by
      rw [List.getElem?_eq_getElem hi] at hg
      obtain rfl := Option.some.inj hg
      rw [lessE_at_left ha]
      exact lessE_irrefl e)
    unfold foundE
    rw [hp, List.getElem?_eq_getElem hi]
    exact ha
theorem mem_putL {l : List Ent} (h : SrtE l) (e x : Ent) : x ∈ putL l e ↔ x = e ∨ (x ∈ l ∧ atE x e = false) := by
  have hs := srt_putL h e
  constructor
  · intro hx
    by_cases hxe : x = e
    · exact .inl hxe
    · right
      have hmem : x ∈ l := by
        unfold putL at hx
        split at hx
        · exact (mem_set2 hx).resolve_left hxe
        · exact (mem_ins3 hx).resolve_left hxe
      refine ⟨hmem, ?_⟩
      rcases hq : atE x e with _ | _
      · rfl
      · have he : e ∈ putL l e := by
          unfold putL
          split
          · rename_i hf
            have hlt : plcE e l < l.length := by
              rcases Nat.lt_or_ge (plcE e l) l.length with hh | hh
              · exact hh
              · unfold foundE at hf
                rw [List.getElem?_eq_none hh] at hf
                cases hf
            exact List.mem_of_getElem? (List.getElem?_set_self hlt)
          · simp
        exact absurd (srt_one hs hx he hq) hxe
  · rintro (rfl | ⟨hx, ha⟩)
    · unfold putL
      split
      · rename_i hf
        have hlt : plcE x l < l.length := by
          rcases Nat.lt_or_ge (plcE x l) l.length with hh | hh
          · exact hh
          · unfold foundE at hf
            rw [List.getElem?_eq_none hh] at hf
            cases hf
        exact List.mem_of_getElem? (List.getElem?_set_self hlt)
      · simp
    · unfold putL
      split
      · rename_i hf
        obtain ⟨i, hi, rfl⟩ := List.getElem_of_mem hx
        have hne : plcE e l ≠ i := fun e1 => by
          unfold foundE at hf
          rw [e1, List.getElem?_eq_getElem hi] at hf
          have hf' : atE l[i] e = true := hf
          rw [hf'] at ha
          cases ha
        refine List.mem_of_getElem? (i := i) ?_
        rw [List.getElem?_set_ne hne, List.getElem?_eq_getElem hi]
      · rw [← List.take_append_drop (plcE e l) l] at hx
        rcases List.mem_append.1 hx with hx | hx
        · exact List.mem_append.2 (.inl hx)
        · exact List.mem_append.2 (.inr (List.mem_cons_of_mem _ hx))
theorem srt_ext : ∀ {a b : List Ent}, SrtE a → SrtE b → (∀ x, x ∈ a ↔ x ∈ b) → a = b
  | [], [], _, _, _ => rfl
  | [], y :: _, _, _, h => absurd ((h y).2 (by simp)) (by simp)
  | x :: _, [], _, _, h => absurd ((h x).1 (by simp)) (by simp)
  | x :: r, y :: s, ha, hb, h => by
    obtain ⟨ha1, ha2⟩ := List.pairwise_cons.1 ha
    obtain ⟨hb1, hb2⟩ := List.pairwise_cons.1 hb
    have hxy : x = y := by
      rcases List.mem_cons.1 ((h x).1 (by simp)) with e | hx
      · exact e
      · rcases List.mem_cons.1 ((h y).2 (by simp)) with e | hy
        · exact e.symm
        · have h1 := hb1 x hx
          have h2 := ha1 y hy
          rw [lessE_asymm h1] at h2
          cases h2
    subst hxy
    refine congrArg (x :: ·) (srt_ext ha2 hb2 fun z => ?_)
    constructor
    · intro hz
      rcases List.mem_cons.1 ((h z).1 (List.mem_cons_of_mem _ hz)) with e | hz2
      · subst e
        have := ha1 z hz
        rw [lessE_irrefl] at this
        cases this
      · exact hz2
    · intro hz
      rcases List.mem_cons.1 ((h z).2 (List.mem_cons_of_mem _ hz)) with e | hz2
      · subst e
        have := hb1 z hz
        rw [lessE_irrefl] at this
        cases this
      · exact hz2
/-- No two versions of one key and number. -/
def ApartE (es : List Ent) : Prop := es.Pairwise fun a b => atE a b = false
theorem atE_norm (a b : Ent) : atE (normE a) (normE b) = atE a b := rfl
theorem puts_apart : ∀ (es l : List Ent), SrtE l → ApartE es → (∀ a ∈ l, ∀ b ∈ es, atE a b = false) → SrtE (putsL l es) ∧ ∀ x, x ∈ putsL l es ↔ x ∈ l ∨ x ∈ es.map normE
  | [], l, hl, _, _ => ⟨hl, fun x => by simp [putsL]⟩
  | e :: r, l, hl, ha, hd => by
    obtain ⟨ha1, ha2⟩ := List.pairwise_cons.1 ha
    have hm := mem_putL hl (normE e)
    have ih := puts_apart r (putL l (normE e)) (srt_putL hl _) ha2 (fun a h1 b h2 => by
      rcases (hm a).1 h1 with rfl | ⟨h3, _⟩
      · exact ha1 b h2
      · exact hd a h3 b (List.mem_cons_of_mem _ h2))
    have e1 : putsL l (e :: r) = putsL (putL l (normE e)) r := rfl
    rw [e1]
    refine ⟨ih.1, fun x => ?_⟩
    rw [ih.2 x, hm x]
    simp only [List.map_cons, List.mem_cons]
    constructor
    · rintro ((h | h) | h)
      · exact .inr (.inl h)
      · exact .inl h.1
      · exact .inr (.inr h)
    · rintro (h | h | h)
      · exact .inl (.inr ⟨h, by
          have := hd x h e (by simp)
          exact this⟩)
      · exact .inl (.inl h)
      · exact .inr h
/-- P504: versions of unlike places make the same list in whatever order. -/
theorem puts_order {a b : List Ent} (ha : ApartE a) (hb : ApartE b) (h : ∀ x, x ∈ a ↔ x ∈ b) : putsL [] a = putsL [] b := by
  have h1 := puts_apart a [] (by simp [SrtE]) ha (fun _ hx => by cases hx)
  have h2 := puts_apart b [] (by simp [SrtE]) hb (fun _ hx => by cases hx)
  refine srt_ext h1.1 h2.1 fun x => ?_
  rw [h1.2, h2.2]
  simp only [List.mem_map]
  constructor
  · rintro (h3 | ⟨y, hy, rfl⟩)
    · cases h3
    · exact .inr ⟨y, (h y).1 hy, rfl⟩
  · rintro (h3 | ⟨y, hy, rfl⟩)
    · cases h3
    · exact .inr ⟨y, (h y).2 hy, rfl⟩

/-! ### what is seen -/
def upE (up : Nat) (s : List UInt8) (f : Ent) : Bool := f.key == s && decide (f.seq ≤ up)
/-- Seen up to k entries, and whether the present key is done. -/
def seenS (up : Nat) (l : List Ent) : Nat → List Ent × Bool
  | 0 => ([], false)
  | k + 1 => match l[k]? with
    | none => seenS up l k
    | some e =>
      let d := if (match l[k - 1]? with | some f => 0 < k && e.key != f.key | none => false) = true then false else (seenS up l k).2
      if d = true ∨ up < e.seq then ((seenS up l k).1, d) else (if e.gone = true then (seenS up l k).1 else (seenS up l k).1 ++ [e], true)
def visE (l : List Ent) (up : Nat) (e : Ent) : Bool := !e.gone && (match newestE l e.key up with | some f => atE f e | none => false)
theorem newest_iff {l : List Ent} {k : Nat} (hk : k < l.length) (hs : SrtE l) (up : Nat) : (match newestE l l[k].key up with | some f => atE f l[k] | none => false) = true ↔ l[k].seq ≤ up ∧ ∀ j, (hj : j < k) → ¬ (l[j].key = l[k].key ∧ l[j].seq ≤ up) := by
  constructor
  · intro h
    cases hq : newestE l l[k].key up with
    | none => rw [hq] at h; cases h
    | some f =>
      rw [hq] at h
      have h' : atE f l[k] = true := h
      have hf := List.find?_some hq
      have hfm := List.mem_of_find?_eq_some hq
      have hfe : f = l[k] := srt_one hs hfm (List.getElem_mem hk) h'
      subst hfe
      simp only [Bool.and_eq_true, beq_self_eq_true, decide_eq_true_eq, true_and] at hf
      refine ⟨hf, fun j hj ⟨h1, h2⟩ => ?_⟩
      obtain ⟨_, us, bs, hl, hno⟩ := List.find?_eq_some_iff_append.1 hq
      have hlen : us.length = k := by
        have hal : us.length < l.length := by rw [hl]; simp
        have h3 : l[us.length] = l[k] := by
          have : l[us.length]? = some l[k] := by
            conv => lhs; rw [hl]
            simp
          rw [List.getElem?_eq_getElem hal] at this
          exact Option.some.inj this
        rcases Nat.lt_trichotomy us.length k with h4 | h4 | h4
        · have := srt_at hs hk h4
          rw [h3, lessE_irrefl] at this
          cases this
        · exact h4
        · have := srt_at hs hal h4
          rw [h3, lessE_irrefl] at this
          cases this
      have hja : l[j] ∈ us := by
        have : l[j]? = us[j]? := by
          conv => lhs; rw [hl]
          rw [List.getElem?_append_left (by omega)]
        rw [List.getElem?_eq_getElem (by omega)] at this
        exact List.mem_of_getElem? this.symm
      have := hno _ hja
      simp [h1, h2] at this
  · rintro ⟨h1, h2⟩
    have := newest_is (l := l) (s := l[k].key) (up := up) (k := k) (e := l[k]) (List.getElem?_eq_getElem hk) (fun j f hj hf => by
      rw [List.getElem?_eq_getElem (by omega)] at hf
      obtain rfl := Option.some.inj hf
      have := h2 j hj
      by_cases hkey : l[j].key = l[k].key
      · have : ¬ l[j].seq ≤ up := fun hh => this ⟨hkey, hh⟩
        simp [this]
      · simp [hkey]) (by simp [h1])
    rw [this]
    exact atE_refl _
/-- Behind k entries: those that are seen; and whether an entry of the last key was. -/
theorem seenS_is {l : List Ent} (hs : SrtE l) (up : Nat) : ∀ k, k ≤ l.length → (seenS up l k).1 = (l.take k).filter (visE l up) ∧ ((seenS up l k).2 = true ↔ ∃ j, ∃ (h : j < k ∧ k ≤ l.length), (l[j]'(by omega)).key = (l[k - 1]'(by omega)).key ∧ (l[j]'(by omega)).seq ≤ up)
  | 0, _ => by simp [seenS]
  | k + 1, hk => by
    obtain ⟨ih1, ih2⟩ := seenS_is hs up k (by omega)
    have hkl : k < l.length := by omega
    have hn := newest_iff hkl hs up
    -- whether an entry of this key was ahead
    obtain ⟨d, hd⟩ : ∃ d, (if (match l[k - 1]? with | some f => 0 < k && l[k].key != f.key | none => false) = true then false else (seenS up l k).2) = d := ⟨_, rfl⟩
    have hdi : d = true ↔ ∃ j, ∃ (_ : j < k), l[j].key = l[k].key ∧ l[j].seq ≤ up := by
      rw [← hd, List.getElem?_eq_getElem (by omega)]
      by_cases h0 : 0 < k
      · by_cases hkey : l[k].key = l[k - 1].key
        · have : ¬ ((0 < k && l[k].key != l[k - 1].key) = true) := by simp [hkey]
          rw [if_neg this, ih2]
          constructor
          · rintro ⟨j, ⟨h1, _⟩, h2, h3⟩
            exact ⟨j, h1, h2.trans hkey.symm, h3⟩
          · rintro ⟨j, h1, h2, h3⟩
            exact ⟨j, ⟨h1, by omega⟩, h2.trans hkey, h3⟩
        · have : (0 < k && l[k].key != l[k - 1].key) = true := by simp [h0, hkey]
          rw [if_pos this]
          constructor
          · intro h; cases h
          · rintro ⟨j, h1, h2, h3⟩
            exfalso
            have hlt := srt_at hs hkl (i := k - 1) (by omega)
            rcases lessE_iff.1 hlt with h4 | ⟨h4, _⟩
            · rcases Nat.lt_or_ge j (k - 1) with h5 | h5
              · have h6 := srt_at hs (show k - 1 < l.length by omega) h5
                rcases lessE_iff.1 h6 with h7 | ⟨h7, _⟩
                · have := lessB_trans h7 h4
                  exact lessB_ne this h2
                · rw [← h7] at h4
                  exact lessB_ne h4 h2
              · obtain rfl : j = k - 1 := by omega
                exact hkey h2.symm
            · exact hkey h4.symm
      · obtain rfl : k = 0 := by omega
        have : ¬ ((0 < 0 && l[0].key != (l[0 - 1]'(by omega)).key) = true) := by simp
        rw [if_neg this]
        constructor
        · intro h
          simp [seenS] at h
        · rintro ⟨j, h1, _⟩
          omega
    have hstep : seenS up l (k + 1) = if d = true ∨ up < l[k].seq then ((seenS up l k).1, d) else (if l[k].gone = true then (seenS up l k).1 else (seenS up l k).1 ++ [l[k]], true) := by
      rw [← hd]
      conv => lhs; unfold seenS
      rw [List.getElem?_eq_getElem hkl]
    have htk : l.take (k + 1) = l.take k ++ [l[k]] := by rw [List.take_add_one, List.getElem?_eq_getElem hkl]; rfl
    have hsub : l[k + 1 - 1]'(by omega) = l[k] := by simp
    rw [hstep, htk, List.filter_append, ← ih1]
    by_cases hb : d = true ∨ up < l[k].seq
    · rw [if_pos hb]
      have hvis : visE l up l[k] = false := by
        rcases hq : (match newestE l l[k].key up with | some f => atE f l[k] | none => false) with _ | _
        · unfold visE
          rw [hq]
          simp
        · obtain ⟨h1, h2⟩ := hn.1 hq
          rcases hb with hb | hb
          · obtain ⟨j, h3, h4, h5⟩ := hdi.1 hb
            exact absurd ⟨h4, h5⟩ (h2 j h3)
          · omega
      refine ⟨by simp [hvis], ?_⟩
      show d = true ↔ _
      rw [hdi]
      constructor
      · rintro ⟨j, h1, h2, h3⟩
        exact ⟨j, ⟨by omega, hk⟩, by rw [hsub]; exact h2, h3⟩
      · rintro ⟨j, ⟨h1, _⟩, h2, h3⟩
        rw [hsub] at h2
        rcases Nat.lt_or_ge j k with h4 | h4
        · exact ⟨j, h4, h2, h3⟩
        · obtain rfl : j = k := by omega
          rcases hb with hb | hb
          · exact hdi.1 hb
          · omega
    · rw [if_neg hb]
      have hd0 : ¬ ∃ j, ∃ (_ : j < k), l[j].key = l[k].key ∧ l[j].seq ≤ up := fun h => hb (.inl (hdi.2 h))
      have hle : l[k].seq ≤ up := by
        have : ¬ up < l[k].seq := fun h => hb (.inr h)
        omega
      have hq := hn.2 ⟨hle, fun j hj h => hd0 ⟨j, hj, h⟩⟩
      have hvis : visE l up l[k] = !l[k].gone := by
        unfold visE
        rw [hq]
        simp
      refine ⟨?_, ?_⟩
      · show (if l[k].gone = true then (seenS up l k).1 else (seenS up l k).1 ++ [l[k]]) = _
        cases hg : l[k].gone
        · simp [hvis, hg]
        · simp [hvis, hg]
      · show true = true ↔ _
        simp only [true_iff]
        exact ⟨k, ⟨by omega, hk⟩, by rw [hsub], hle⟩
def seenE (l : List Ent) (up : Nat) : List Ent := l.filter (visE l up)
theorem seenS_all {l : List Ent} (hs : SrtE l) (up : Nat) : (seenS up l l.length).1 = seenE l up := by
  have := (seenS_is hs up l.length (Nat.le_refl _)).1
  rw [List.take_length] at this
  exact this
/-- Of what is seen, the entry of a key is the newest one, if that is not gone. -/
theorem seen_find {l : List Ent} (hs : SrtE l) (up : Nat) (s : List UInt8) : (seenE l up).find? (fun e => e.key == s) = (newestE l s up).filter (fun e => !e.gone) := by
  unfold seenE
  cases hq : newestE l s up with
  | none =>
    have hno := newest_none.1 hq
    rw [Option.filter_none, List.find?_eq_none]
    intro x hx
    obtain ⟨hx1, hx2⟩ := List.mem_filter.1 hx
    simp only [beq_iff_eq]
    intro hkey
    obtain ⟨k, hk, rfl⟩ := List.getElem_of_mem hx1
    unfold visE at hx2
    simp only [Bool.and_eq_true] at hx2
    have h1 := (newest_iff hk hs up).1 hx2.2
    have h2 := hno _ hx1
    simp [hkey, h1.1] at h2
  | some f =>
    have hf := List.find?_some hq
    have hfm := List.mem_of_find?_eq_some hq
    simp only [Bool.and_eq_true, beq_iff_eq, decide_eq_true_eq] at hf
    have hvf : visE l up f = !f.gone := by
      unfold visE
      rw [hf.1, hq]
      simp [atE_refl]
    have huni : ∀ x ∈ l, visE l up x = true → x.key = s → x = f := fun x hx hv hkey => by
      unfold visE at hv
      simp only [Bool.and_eq_true] at hv
      have h2 := hv.2
      rw [hkey, hq] at h2
      exact (srt_one hs hfm hx h2).symm
    cases hg : f.gone
    · rw [hg] at hvf
      have : (some f).filter (fun e => !e.gone) = some f := by simp [Option.filter, hg]
      rw [this]
      rcases hfd : (l.filter (visE l up)).find? (fun e => e.key == s) with _ | x
      · have := List.find?_eq_none.1 hfd f (List.mem_filter.2 ⟨hfm, by simpa using hvf⟩)
        simp [hf.1] at this
      · have h1 := List.find?_some hfd
        have h2 := List.mem_of_find?_eq_some hfd
        obtain ⟨h3, h4⟩ := List.mem_filter.1 h2
        rw [hfd, huni x h3 h4 (by simpa using h1)]
    · rw [hg] at hvf
      have : (some f).filter (fun e => !e.gone) = none := by simp [Option.filter, hg]
      rw [this, List.find?_eq_none]
      intro x hx
      obtain ⟨hx1, hx2⟩ := List.mem_filter.1 hx
      simp only [beq_iff_eq]
      intro hkey
      have := huni x hx1 hx2 hkey
      subst this
      rw [hvf] at hx2
      simp at hx2
end Go.Proofs.Yteclnnjijfbfoaa
