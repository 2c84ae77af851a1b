/-
  Plain facts for the reference's disk: the place of a name among files that rise.
-/
import Derived.Test.YtlekffhacmdnnaaDsk
namespace Go.Proofs.Ytlekffhacmdnnaa

theorem before_eq : ∀ (a b : List UInt8), bytesBefore a b = decide (a < b)
  | [], [] => by simp [bytesBefore]
  | [], _ :: _ => by simp [bytesBefore]
  | _ :: _, [] => by simp [bytesBefore]
  | x :: r, y :: s => by
    have ih := before_eq r s
    rw [Bool.eq_iff_iff] at ih ⊢
    simp only [bytesBefore, Bool.or_eq_true, Bool.and_eq_true, decide_eq_true_eq, beq_iff_eq, List.cons_lt_cons_iff] at ih ⊢
    rw [ih]
theorem less_eq (a b : List UInt8) : Op.bytesLess a b = bytesBefore a b := by rw [before_eq, Go.Proofs.bytesLess_eq]

def plc (s : List UInt8) (l : List Fl) : Nat := (l.takeWhile fun f => bytesBefore f.name s).length
theorem plc_cons (s : List UInt8) (g : Fl) (r : List Fl) : plc s (g :: r) = if bytesBefore g.name s = true then plc s r + 1 else 0 := by
  unfold plc
  rw [List.takeWhile_cons]
  split <;> rfl
theorem plc_le (s : List UInt8) : ∀ l : List Fl, plc s l ≤ l.length
  | [] => by simp [plc]
  | g :: r => by
    have := plc_le s r
    rw [plc_cons]
    split <;> simp <;> omega
theorem plc_is (s : List UInt8) : ∀ (l : List Fl) (k : Nat), k ≤ l.length → (∀ j f, j < k → l[j]? = some f → bytesBefore f.name s = true) → (∀ f, l[k]? = some f → bytesBefore f.name s = false) → plc s l = k
  | [], k, hk, _, _ => by simp at hk; simp [plc, hk]
  | g :: r, 0, _, _, h2 => by
    rw [plc_cons, if_neg (by rw [h2 g rfl]; simp)]
  | g :: r, k + 1, hk, h1, h2 => by
    have := plc_is s r k (by simpa using hk) (fun j f hj hf => h1 (j + 1) f (by omega) (by simpa using hf)) (fun f hf => h2 f (by simpa using hf))
    rw [plc_cons, if_pos (h1 0 g (by omega) rfl), this]
theorem plc_ins {f : Fl} : ∀ (l : List Fl), (∀ g ∈ l, g.name ≠ f.name) → ins f l = l.take (plc f.name l) ++ f :: l.drop (plc f.name l)
  | [], _ => by simp [ins, plc]
  | g :: r, hn => by
    have ih := plc_ins (f := f) r fun x hx => hn x (by simp [hx])
    by_cases hb : bytesBefore g.name f.name = true
    · have e1 : ins f (g :: r) = g :: ins f r := by simp [ins, before_asymm hb]
      rw [e1, plc_cons, if_pos hb, ih]
      simp
    · have h2 : bytesBefore f.name g.name = true := (Go.WideAt.bytes_total g.name f.name (hn g (by simp))).resolve_left hb
      have e1 : ins f (g :: r) = f :: g :: r := by simp [ins, h2]
      rw [e1, plc_cons, if_neg hb]
      simp
theorem put_new {l : List Fl} {f : Fl} (hn : look f.name l = none) : put f l = l.take (plc f.name l) ++ f :: l.drop (plc f.name l) := by
  rw [put, del_none hn]
  exact plc_ins l (look_none.1 hn)
theorem plc_at : ∀ {l : List Fl}, Srt l → ∀ {s : List UInt8} {f : Fl}, look s l = some f → l[plc s l]? = some f
  | [], _, s, f, h => by simp [look] at h
  | g :: r, hs, s, f, h => by
    have hc := List.pairwise_cons.1 hs
    by_cases e : g.name = s
    · have h1 : look s (g :: r) = some g := by simp [look, e]
      rw [h1] at h
      rw [plc_cons, if_neg (by rw [e, Go.WideAt.bytes_irrefl]; simp)]
      simpa using h
    · have h1 : look s (g :: r) = look s r := by simp [look, e]
      rw [h1] at h
      obtain ⟨hm, hn⟩ := look_some h
      have hb := hc.1 f hm
      rw [hn] at hb
      rw [plc_cons, if_pos hb]
      simpa using plc_at hc.2 h
theorem plc_lt {l : List Fl} (hs : Srt l) {s : List UInt8} {f : Fl} (h : look s l = some f) : plc s l < l.length := (List.getElem?_eq_some_iff.1 (plc_at hs h)).1
theorem set_put : ∀ {l : List Fl}, Srt l → ∀ {f f' : Fl}, look f'.name l = some f → l.set (plc f'.name l) f' = put f' l := by
  intro l hs f f' h
  obtain ⟨hm, hn⟩ := look_some h
  rw [put_map hs hm hn.symm]
  induction l with
  | nil => cases hm
  | cons g r ih =>
    have hc := List.pairwise_cons.1 hs
    have hc2 := List.pairwise_cons.1 hs.ne
    by_cases e : g.name = f'.name
    · rw [plc_cons, if_neg (by rw [e, Go.WideAt.bytes_irrefl]; simp), List.map_cons, if_pos e, map_id fun x hx e2 => (hc2.1 x hx) (e.trans e2.symm)]
      rfl
    · have h1 : look f'.name (g :: r) = look f'.name r := by simp [look, e]
      rw [h1] at h
      obtain ⟨hm2, _⟩ := look_some h
      have hb := hc.1 f hm2
      rw [hn] at hb
      rw [plc_cons, if_pos hb, List.map_cons, if_neg e, List.set_cons_succ, ih hc.2 h hm2]
theorem del_cut : ∀ {l : List Fl}, Srt l → ∀ {s : List UInt8} {f : Fl}, look s l = some f → del s l = l.take (plc s l) ++ l.drop (plc s l + 1) := by
  intro l hs s f h
  obtain ⟨hm, hn⟩ := look_some h
  induction l with
  | nil => cases hm
  | cons g r ih =>
    have hc := List.pairwise_cons.1 hs
    have hc2 := List.pairwise_cons.1 hs.ne
    by_cases e : g.name = s
    · rw [plc_cons, if_neg (by rw [e, Go.WideAt.bytes_irrefl]; simp)]
      have e1 : del s (g :: r) = r := by
        simp only [del, List.filter_cons, e, beq_self_eq_true, Bool.not_true, Bool.false_eq_true, if_false]
        refine List.filter_eq_self.2 fun x hx => ?_
        simpa using fun e2 => (hc2.1 x hx) (e.trans e2.symm)
      rw [e1]
      simp
    · have h1 : look s (g :: r) = look s r := by simp [look, e]
      rw [h1] at h
      obtain ⟨hm2, _⟩ := look_some h
      have hb := hc.1 f hm2
      rw [hn] at hb
      have e1 : del s (g :: r) = g :: del s r := by simp [del, e]
      rw [plc_cons, if_pos hb, e1, ih hc.2 h hm2]
      simp
theorem plc_none {l : List Fl} {s : List UInt8} (h : look s l = none) (f : Fl) (hf : l[plc s l]? = some f) : f.name ≠ s := look_none.1 h f (List.mem_of_getElem? hf)
theorem find_is {l : List Fl} (hs : Srt l) {s : List UInt8} {f : Fl} (h : l[plc s l]? = some f) : (look s l).isSome = (f.name == s) := by
  rcases e : look s l with _ | g
  · have := plc_none e f h
    simp [this]
  · have h1 := plc_at hs e
    rw [h] at h1
    obtain rfl : f = g := by simpa using h1
    simp [(look_some e).2]
theorem find_end {l : List Fl} (hs : Srt l) {s : List UInt8} (h : plc s l = l.length) : look s l = none := by
  rcases e : look s l with _ | g
  · rfl
  · have := plc_lt hs e
    omega
end Go.Proofs.Ytlekffhacmdnnaa
