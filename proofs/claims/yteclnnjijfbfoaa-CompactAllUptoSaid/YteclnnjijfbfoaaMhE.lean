/-
  Merging in steps, told plainly.
-/
import Derived.Test.YteclnnjijfbfoaaMgO
namespace Go.Proofs.Yteclnnjijfbfoaa

theorem mrgL_right {ls : List (List Ent)} (h : ∀ l ∈ ls, rightE l = true) : rightE (mrgL ls) = true := by
  have hm := mrgL_is fun l hl => (rightE_iff.1 (h l hl)).2
  refine rightE_iff.2 ⟨fun e he => ?_, hm.srt⟩
  obtain ⟨l, hl, hx⟩ := inM_mem ((hm.mem e).1 he)
  exact (rightE_iff.1 (h l hl)).1 e hx
theorem twoL_nil {m : List Ent} (h : SrtE m) : twoL [] m = m := by
  obtain ⟨h1, h2⟩ := twoL_spec m [] (by simp [SrtE]) h
  exact srt_ext h1 h fun x => by rw [h2 x]; simp
theorem far_two {a b : List Ent} (ha : SrtE a) (hb : SrtE b) (x : Ent) : (∀ z ∈ twoL a b, atE z x = false) ↔ (∀ z ∈ a, atE z x = false) ∧ ∀ z ∈ b, atE z x = false := by
  obtain ⟨_, h2⟩ := twoL_spec b a ha hb
  constructor
  · intro h
    have hA : ∀ z ∈ a, atE z x = false := fun z hz => h z ((h2 z).2 (.inl hz))
    refine ⟨hA, fun z hz => ?_⟩
    by_cases hex : ∃ y ∈ a, atE y z = true
    · obtain ⟨y, hy, hyz⟩ := hex
      rcases e : atE z x with _ | _
      · rfl
      · have := hA y hy
        rw [atE_trans hyz e] at this
        cases this
    · refine h z ((h2 z).2 (.inr ⟨hz, fun y hy => ?_⟩))
      rcases e : atE y z with _ | _
      · rfl
      · exact absurd ⟨y, hy, e⟩ hex
  · rintro ⟨hA, hB⟩ z hz
    rcases (h2 z).1 hz with hz | ⟨hz, _⟩
    · exact hA z hz
    · exact hB z hz
theorem twoL_assoc {a b c : List Ent} (ha : SrtE a) (hb : SrtE b) (hc : SrtE c) : twoL (twoL a b) c = twoL a (twoL b c) := by
  obtain ⟨p1, p2⟩ := twoL_spec b a ha hb
  obtain ⟨q1, q2⟩ := twoL_spec c b hb hc
  obtain ⟨r1, r2⟩ := twoL_spec c (twoL a b) p1 hc
  obtain ⟨s1, s2⟩ := twoL_spec (twoL b c) a ha q1
  refine srt_ext r1 s1 fun x => ?_
  rw [r2 x, s2 x, p2 x, q2 x, far_two ha hb]
  constructor
  · rintro ((h | ⟨h, h3⟩) | ⟨h, h3, h4⟩)
    · exact .inl h
    · exact .inr ⟨.inl h, h3⟩
    · exact .inr ⟨.inr ⟨h, h4⟩, h3⟩
  · rintro (h | ⟨h | ⟨h, h4⟩, h3⟩)
    · exact .inl (.inl h)
    · exact .inl (.inr ⟨h, h3⟩)
    · exact .inr ⟨h, h3, h4⟩
theorem mrgL_two {a b : List Ent} (ha : SrtE a) : mrgL [a, b] = twoL a b := by simp [mrgL, twoL_nil ha]
theorem mrgL_three {a b c : List Ent} (ha : SrtE a) : mrgL [a, b, c] = twoL (twoL a b) c := by simp [mrgL, twoL_nil ha]
theorem steps_left {a b c : List Ent} (ha : SrtE a) (hb : SrtE b) : mrgL [mrgL [a, b], c] = mrgL [a, b, c] := by
  rw [mrgL_three ha, mrgL_two ha, mrgL_two (twoL_spec b a ha hb).1]
theorem steps_right {a b c : List Ent} (ha : SrtE a) (hb : SrtE b) (hc : SrtE c) : mrgL [a, mrgL [b, c]] = mrgL [a, b, c] := by
  rw [mrgL_three ha, mrgL_two ha, mrgL_two hb, twoL_assoc ha hb hc]
end Go.Proofs.Yteclnnjijfbfoaa
