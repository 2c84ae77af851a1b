/-
  The walk over glacierlaw6.MergeSteps.
-/
import Derived.Test.YteclnnjijfbfoaaMhD
import Derived.Test.YteclnnjijfbfoaaMhE
namespace Go.Proofs.Yteclnnjijfbfoaa
open Go.RowKit

theorem addL_len (m : List Ent) (y : Ent) : (addL m y).length ≤ m.length + 1 := by
  unfold addL
  split
  · omega
  · unfold putL
    split
    · simp
    · simp
      have := plcE_le y m
      omega
theorem twoL_len : ∀ (b a : List Ent), (twoL a b).length ≤ a.length + b.length
  | [], a => by simp [twoL]
  | y :: r, a => by
    have h1 := twoL_len r (addL a y)
    have h2 := addL_len a y
    have e : twoL a (y :: r) = twoL (addL a y) r := rfl
    rw [e, List.length_cons]
    omega
theorem mrgL_fit {ls : List (List Ent)} (hs : ∀ l ∈ ls, SrtE l) (hf : ∀ l ∈ ls, ∀ x ∈ l, FitE x) : ∀ x ∈ mrgL ls, FitE x := fun x hx => by
  obtain ⟨l, hl, hxl⟩ := inM_mem (((mrgL_is hs).mem x).1 hx)
  exact hf l hl x hxl
theorem Els.new {w : World} {us : List Value} {ls : List (List Ent)} (hl : us.length = ls.length) (hn : ls.length ≤ 1000) (h : ∀ (k : Nat) (l : List Ent) (u : Value), ls[k]? = some l → us[k]? = some u → En w (fun _ => True) u l) :
    Els (w.alloc (.cells us.toArray 26)) (fun _ => True) (.slice (some ⟨w.heap.size, 0, none⟩) ls.length ls.length) ls :=
  ⟨us, hl, Cl.new w _ ls.length us _ _ rfl (by omega) trivial, fun k l u h1 h2 => (h k l u h1 h2).below ((Below.refl _ _).alloc (Nat.le_refl _) _)⟩
theorem mg_ok (w : World) (v : Value) (ls : List (List Ent)) (h : Els w (fun _ => True) v ls) (hr : ∀ l ∈ ls, rightE l = true) (hf : ∀ l ∈ ls, ∀ x ∈ l, FitE x) (h3 : ls.length ≤ 3) (hM : ∀ l ∈ ls, l.length ≤ 3000) :
    Calls Try.prog 18 #[v] w fun r w' => ∃ p c, r = .returned (.tuple #[.slice p (mrgL ls).length c, .int .i64 0]) ∧ En w' (fun _ => True) (.slice p (mrgL ls).length c) (mrgL ls) ∧ Below w.heap.size w w' :=
  (mg_merge w _ v ls h hf (by omega) 3000 hM (by omega)).mono fun r w' ⟨hb, h⟩ => h.elim (fun ⟨_, u, h1, h2⟩ => by
    obtain ⟨p, c, rfl, _⟩ := h2.form
    exact ⟨p, c, h1, h2.mono fun _ _ _ => trivial, hb⟩) (fun ⟨⟨l, hl, h1⟩, _⟩ => by rw [hr l hl] at h1; cases h1)
theorem Els.two {w : World} {ua ub : Value} {a b : List Ent} (ha : En w (fun _ => True) ua a) (hb : En w (fun _ => True) ub b) : Els (w.alloc (.cells #[ua, ub] 26)) (fun _ => True) (.slice (some ⟨w.heap.size, 0, none⟩) 2 2) [a, b] :=
  Els.new (us := [ua, ub]) rfl (by simp) fun k l u h1 h2 => by
    match k with
    | 0 => obtain rfl := Option.some.inj h1; obtain rfl := Option.some.inj h2; exact ha
    | 1 => obtain rfl := Option.some.inj h1; obtain rfl := Option.some.inj h2; exact hb
    | k + 2 => simp at h1
theorem Els.three {w : World} {ua ub uc : Value} {a b c : List Ent} (ha : En w (fun _ => True) ua a) (hb : En w (fun _ => True) ub b) (hc : En w (fun _ => True) uc c) : Els (w.alloc (.cells #[ua, ub, uc] 26)) (fun _ => True) (.slice (some ⟨w.heap.size, 0, none⟩) 3 3) [a, b, c] :=
  Els.new (us := [ua, ub, uc]) rfl (by simp) fun k l u h1 h2 => by
    match k with
    | 0 => obtain rfl := Option.some.inj h1; obtain rfl := Option.some.inj h2; exact ha
    | 1 => obtain rfl := Option.some.inj h1; obtain rfl := Option.some.inj h2; exact hb
    | 2 => obtain rfl := Option.some.inj h1; obtain rfl := Option.some.inj h2; exact hc
    | k + 3 => simp at h1

end Go.Proofs.Yteclnnjijfbfoaa
