/-
  A disk, told plainly: its files by name, rising, and what the calls of the chapter on disks make of them. Lists and numbers alone; the datum of the map that holds the files.
-/
import Derived.Maps.OwnSet
import Derived.Sort.KeysCollected
import Derived.Sort.Walk0
namespace Go.Proofs.YtlbfgkocpjlamaaGreatDoor

structure Fl where
  name : List UInt8
  data : List UInt8
  synced : Nat
structure Dsk where
  size : Nat
  files : List Fl
  born : Nat

def look (s : List UInt8) (l : List Fl) : Option Fl := l.find? fun g => g.name == s
def del (s : List UInt8) (l : List Fl) : List Fl := l.filter fun g => !(g.name == s)
def ins (f : Fl) : List Fl → List Fl
  | [] => [f]
  | g :: r => if bytesBefore f.name g.name then f :: g :: r else g :: ins f r
def put (f : Fl) (l : List Fl) : List Fl := ins f (del f.name l)
def used (l : List Fl) : Nat := (l.map fun f => f.data.length).sum
def Srt (l : List Fl) : Prop := l.Pairwise fun f g => bytesBefore f.name g.name = true

theorem mem_ins {f g : Fl} {l : List Fl} : g ∈ ins f l ↔ g = f ∨ g ∈ l := by
  induction l with
  | nil => simp [ins]
  | cons x r ih =>
    unfold ins
    split
    · simp
    · simp only [List.mem_cons, ih]
      constructor
      · rintro (h | h | h)
        · exact .inr (.inl h)
        · exact .inl h
        · exact .inr (.inr h)
      · rintro (h | h | h)
        · exact .inr (.inl h)
        · exact .inl h
        · exact .inr (.inr h)
theorem mem_del {s : List UInt8} {g : Fl} {l : List Fl} : g ∈ del s l ↔ g ∈ l ∧ g.name ≠ s := by simp [del]
theorem mem_put {f g : Fl} {l : List Fl} : g ∈ put f l ↔ g = f ∨ (g ∈ l ∧ g.name ≠ f.name) := by rw [put, mem_ins, mem_del]
theorem look_some {s : List UInt8} {l : List Fl} {f : Fl} (h : look s l = some f) : f ∈ l ∧ f.name = s := by
  refine ⟨List.mem_of_find?_eq_some h, ?_⟩
  have := List.find?_some h
  simpa using this
theorem look_none {s : List UInt8} {l : List Fl} : look s l = none ↔ ∀ f ∈ l, f.name ≠ s := by simp [look]
theorem Srt.del {l : List Fl} (h : Srt l) (s : List UInt8) : Srt (del s l) := h.filter _
theorem Srt.ne {l : List Fl} (h : Srt l) : l.Pairwise fun f g => f.name ≠ g.name :=
  h.imp fun {a b} hab e => by rw [e, Go.WideAt.bytes_irrefl] at hab; cases hab
theorem srt_ins {f : Fl} : ∀ {l : List Fl}, Srt l → (∀ g ∈ l, g.name ≠ f.name) → Srt (ins f l)
  | [], _, _ => by simp [ins, Srt]
  | g :: r, h, hn => by
    have hc := List.pairwise_cons.1 h
    unfold ins
    split
    · rename_i hb
      refine List.pairwise_cons.2 ⟨fun x hx => ?_, h⟩
      rcases List.mem_cons.1 hx with rfl | hx
      · exact hb
      · exact Go.WideShapes.bytes_trans _ _ _ hb (hc.1 x hx)
    · rename_i hb
      have hgf : bytesBefore g.name f.name = true := (Go.WideAt.bytes_total g.name f.name (hn g (by simp))).resolve_right hb
      refine List.pairwise_cons.2 ⟨fun x hx => ?_, srt_ins hc.2 fun y hy => hn y (by simp [hy])⟩
      rcases mem_ins.1 hx with rfl | hx
      · exact hgf
      · exact hc.1 x hx
theorem Srt.put {l : List Fl} (h : Srt l) (f : Fl) : Srt (put f l) := srt_ins (h.del _) fun _ hg => (mem_del.1 hg).2
theorem srt_inj {l : List Fl} (h : Srt l) {f g : Fl} (hf : f ∈ l) (hg : g ∈ l) (e : f.name = g.name) : f = g := by
  induction l with
  | nil => cases hf
  | cons x r ih =>
    have hc := List.pairwise_cons.1 h.ne
    rcases List.mem_cons.1 hf with hf1 | hf1
    · rcases List.mem_cons.1 hg with hg1 | hg1
      · rw [hf1, hg1]
      · exact absurd (by rw [← hf1]; exact e) (hc.1 g hg1)
    · rcases List.mem_cons.1 hg with hg1 | hg1
      · exact absurd (by rw [← hg1]; exact e.symm) (hc.1 f hf1)
      · exact ih (List.pairwise_cons.1 h).2 hf1 hg1
theorem look_mem {l : List Fl} (h : Srt l) {f : Fl} (hf : f ∈ l) : look f.name l = some f := by
  rcases e : look f.name l with _ | g
  · exact absurd rfl (look_none.1 e f hf)
  · obtain ⟨h1, h2⟩ := look_some e
    rw [srt_inj h h1 hf h2]
theorem used_ins (f : Fl) : ∀ l : List Fl, used (ins f l) = used l + f.data.length
  | [] => by simp [ins, used]
  | g :: r => by
    unfold ins
    split
    · simp [used]; omega
    · have := used_ins f r
      simp only [used, List.map_cons, List.sum_cons] at this ⊢
      omega
theorem used_cons (f : Fl) (l : List Fl) : used (f :: l) = f.data.length + used l := by simp [used]
theorem used_del {l : List Fl} (h : Srt l) (s : List UInt8) : used (del s l) + (match look s l with | some f => f.data.length | none => 0) = used l := by
  induction l with
  | nil => simp [del, look, used]
  | cons g r ih =>
    have hc := List.pairwise_cons.1 h.ne
    by_cases e : g.name = s
    · have e1 : del s (g :: r) = r := by
        simp only [del, List.filter_cons, e, beq_self_eq_true, Bool.not_true, Bool.false_eq_true, if_false]
        refine List.filter_eq_self.2 fun x hx => ?_
        simpa using fun e2 => (hc.1 x hx) (e.trans e2.symm)
      have e2 : look s (g :: r) = some g := by simp [look, e]
      rw [e1, e2, used_cons]
      simp only
      omega
    · have e1 : del s (g :: r) = g :: del s r := by simp [del, e]
      have e2 : look s (g :: r) = look s r := by simp [look, e]
      have := ih (List.pairwise_cons.1 h).2
      rw [e1, e2, used_cons, used_cons]
      omega
theorem used_put {l : List Fl} (h : Srt l) (f : Fl) : used (put f l) + (match look f.name l with | some g => g.data.length | none => 0) = used l + f.data.length := by
  have := used_del h f.name
  rw [put, used_ins]
  omega
theorem used_mem {l : List Fl} {f : Fl} (h : f ∈ l) : f.data.length ≤ used l := by
  induction l with
  | nil => cases h
  | cons g r ih =>
    rw [used_cons]
    rcases List.mem_cons.1 h with rfl | h
    · omega
    · have := ih h
      omega
theorem length_ins (f : Fl) : ∀ l : List Fl, (ins f l).length = l.length + 1
  | [] => rfl
  | g :: r => by
    unfold ins
    split
    · rfl
    · simp [length_ins f r]
theorem length_put (f : Fl) (l : List Fl) : (put f l).length ≤ l.length + 1 := by
  rw [put, length_ins]
  have := List.length_filter_le (fun g : Fl => !(g.name == f.name)) l
  unfold del
  omega

/-! ### the datum of the map of files -/
def dm (loc : List UInt8 → Nat) (l : List Fl) : DataW Nat := .map (l.map fun f => (Lit.string f.name, DataW.held (loc f.name)))
def upd {α : Type} (loc : List UInt8 → α) (s : List UInt8) (b : α) : List UInt8 → α := fun t => if t = s then b else loc t
theorem upd_same {α : Type} (loc : List UInt8 → α) (s : List UInt8) (b : α) : upd loc s b s = b := by simp [upd]
theorem upd_other {α : Type} (loc : List UInt8 → α) {s t : List UInt8} (b : α) (h : t ≠ s) : upd loc s b t = loc t := by simp [upd, h]
theorem dm_congr {loc loc' : List UInt8 → Nat} {l : List Fl} (h : ∀ f ∈ l, loc f.name = loc' f.name) : dm loc l = dm loc' l := by
  unfold dm
  congr 1
  exact List.map_congr_left fun f hf => by rw [h f hf]
theorem dm_del (loc : List UInt8 → Nat) (l : List Fl) (s : List UInt8) : (dm loc l).del (.string s) = dm loc (del s l) := by
  simp only [dm, DataW.del, del, List.filter_map]
  congr 2
theorem insert_ins (loc : List UInt8 → Nat) (f : Fl) : ∀ l : List Fl,
    DataW.insert (Lit.string f.name, DataW.held (loc f.name)) (l.map fun g => (Lit.string g.name, (DataW.held (loc g.name) : DataW Nat))) = (ins f l).map fun g => (Lit.string g.name, DataW.held (loc g.name))
  | [] => rfl
  | g :: r => by
    have := insert_ins loc f r
    have e1 : (Lit.string f.name).before (Lit.string g.name) = bytesBefore f.name g.name := rfl
    by_cases hb : bytesBefore f.name g.name = true
    · have e2 : ins f (g :: r) = f :: g :: r := by simp [ins, hb]
      rw [e2, List.map_cons]
      show (if (Lit.string f.name).before (Lit.string g.name) = true then _ else _) = _
      rw [e1, if_pos hb]
      rfl
    · have e2 : ins f (g :: r) = g :: ins f r := by simp [ins, hb]
      rw [e2, List.map_cons, List.map_cons]
      show (if (Lit.string f.name).before (Lit.string g.name) = true then _ else _) = _
      rw [e1, if_neg hb, this]
theorem dm_put (loc : List UInt8 → Nat) (l : List Fl) (f : Fl) (b : Nat) : (dm loc l).put (.string f.name) (.held b) = dm (upd loc f.name b) (put f l) := by
  have e := dm_del loc l f.name
  simp only [dm, DataW.del, DataW.put] at e ⊢
  injection e with e
  rw [e]
  have e2 : (del f.name l).map (fun g => (Lit.string g.name, (DataW.held (loc g.name) : DataW Nat))) = (del f.name l).map fun g => (Lit.string g.name, DataW.held (upd loc f.name b g.name)) :=
    List.map_congr_left fun g hg => by rw [upd_other loc b (mem_del.1 hg).2]
  rw [e2]
  have := insert_ins (upd loc f.name b) f (del f.name l)
  rw [upd_same] at this
  rw [this]
  rfl
theorem dm_at (loc : List UInt8 → Nat) (l : List Fl) (s : List UInt8) (z : DataW Nat) : (dm loc l).atKey (.string s) z = match look s l with | some _ => .held (loc s) | none => z := by
  unfold dm DataW.atKey look
  induction l with
  | nil => simp
  | cons g r ih =>
    by_cases e : g.name = s
    · simp [e, Lit.sameKey]
    · simp only [List.map_cons, List.find?_cons, Lit.sameKey, beq_eq_false_iff_ne.2 e] at ih ⊢
      exact ih
theorem dm_has (loc : List UInt8 → Nat) (l : List Fl) (s : List UInt8) : Go.Maps.has (dm loc l) (.string s) = (look s l).isSome := by
  unfold dm look
  rw [Go.Maps.has_eq]
  induction l with
  | nil => simp
  | cons g r ih =>
    by_cases e : g.name = s
    · simp [e, Lit.sameKey]
    · simp only [List.map_cons, List.any_cons, List.find?_cons, Lit.sameKey, beq_eq_false_iff_ne.2 e, Bool.false_or] at ih ⊢
      exact ih
theorem dm_size (loc : List UInt8 → Nat) (l : List Fl) : Go.Maps.size (dm loc l) = l.length := by simp [dm, Go.Maps.size]
theorem dm_keys (loc : List UInt8 → Nat) (l : List Fl) : strKeys (dm loc l) = l.map (·.name) := by simp [dm, strKeys, strOf]

theorem before_lt : ∀ (a b : List UInt8), bytesBefore a b = true → a < b
  | [], [], h => by simp [bytesBefore] at h
  | [], _ :: _, _ => List.nil_lt_cons _ _
  | _ :: _, [], h => by simp [bytesBefore] at h
  | x :: r, y :: s, h => by
    simp only [bytesBefore, Bool.or_eq_true, Bool.and_eq_true, decide_eq_true_eq, beq_iff_eq] at h
    rw [List.cons_lt_cons_iff]
    rcases h with h | ⟨h1, h2⟩
    · exact .inl h
    · exact .inr ⟨h1, before_lt r s h2⟩
theorem sorted_names {l : List Fl} (h : Srt l) : (l.map (·.name)).mergeSort leB = l.map (·.name) := by
  apply List.mergeSort_of_pairwise
  rw [List.pairwise_map]
  exact h.imp fun {a b} hab => by
    simp only [leB, decide_eq_true_eq]
    exact List.le_of_lt (before_lt _ _ hab)
/-! ### a file in place of the one that has its name -/
theorem before_asymm {a b : List UInt8} (h : bytesBefore a b = true) : bytesBefore b a = false := by
  rcases e : bytesBefore b a with _ | _
  · rfl
  · have := Go.WideShapes.bytes_trans _ _ _ h e
    rw [Go.WideAt.bytes_irrefl] at this
    cases this
theorem map_id {r : List Fl} {f' : Fl} (h : ∀ x ∈ r, x.name ≠ f'.name) : (r.map fun g => if g.name = f'.name then f' else g) = r := by
  induction r with
  | nil => rfl
  | cons x s ih =>
    rw [List.map_cons, if_neg (h x (by simp)), ih fun y hy => h y (by simp [hy])]
theorem put_map {l : List Fl} (h : Srt l) {f f' : Fl} (hf : f ∈ l) (hn : f'.name = f.name) : put f' l = l.map fun g => if g.name = f'.name then f' else g := by
  induction l with
  | nil => cases hf
  | cons g r ih =>
    have hc := List.pairwise_cons.1 h
    have hc2 := List.pairwise_cons.1 h.ne
    by_cases e : g.name = f'.name
    · have e1 : del f'.name (g :: r) = r := by
        simp only [del, List.filter_cons, e, beq_self_eq_true, Bool.not_true, Bool.false_eq_true, if_false]
        refine List.filter_eq_self.2 fun x hx => ?_
        simpa using fun e2 => (hc2.1 x hx) (e.trans e2.symm)
      have e2 : ins f' r = f' :: r := by
        cases r with
        | nil => rfl
        | cons x s =>
          have := hc.1 x (by simp)
          rw [e] at this
          simp [ins, this]
      have e3 : (r.map fun g => if g.name = f'.name then f' else g) = r := by
        exact map_id fun x hx e2 => (hc2.1 x hx) (e.trans e2.symm)
      rw [put, e1, e2, List.map_cons, if_pos e, e3]
    · have hfr : f ∈ r := by
        rcases List.mem_cons.1 hf with rfl | hfr
        · exact absurd hn.symm e
        · exact hfr
      have e1 : del f'.name (g :: r) = g :: del f'.name r := by simp [del, e]
      have e2 : bytesBefore f'.name g.name = false := before_asymm (by rw [hn]; exact hc.1 f hfr)
      have := ih hc.2 hfr
      rw [put] at this
      rw [put, e1, List.map_cons, if_neg e, ← this]
      simp [ins, e2]
theorem dm_same {loc : List UInt8 → Nat} {l : List Fl} (h : Srt l) {f f' : Fl} (hf : f ∈ l) (hn : f'.name = f.name) : dm loc (put f' l) = dm loc l := by
  rw [put_map h hf hn]
  unfold dm
  congr 1
  rw [List.map_map]
  refine List.map_congr_left fun g _ => ?_
  by_cases e : g.name = f'.name
  · simp [e]
  · simp [e]
theorem length_same {l : List Fl} (h : Srt l) {f f' : Fl} (hf : f ∈ l) (hn : f'.name = f.name) : (put f' l).length = l.length := by rw [put_map h hf hn, List.length_map]
theorem ins_map {f f' : Fl} (hn : f.name = f'.name) : ∀ (r : List Fl), (∀ x ∈ r, x.name ≠ f'.name) → (ins f r).map (fun g => if g.name = f'.name then f' else g) = ins f' r
  | [], _ => by simp [ins, hn]
  | x :: s, hx => by
    have hs := ins_map hn s fun y hy => hx y (by simp [hy])
    have hxn : ¬ x.name = f'.name := hx x (by simp)
    have hid := map_id (f' := f') fun y hy => hx y (List.mem_cons_of_mem x hy)
    by_cases hb : bytesBefore f'.name x.name = true
    · have e1 : ins f (x :: s) = f :: x :: s := by simp [ins, hn, hb]
      have e2 : ins f' (x :: s) = f' :: x :: s := by simp [ins, hb]
      rw [e1, e2, List.map_cons, if_pos hn, List.map_cons, if_neg hxn, hid]
    · have e1 : ins f (x :: s) = x :: ins f s := by simp [ins, hn, hb]
      have e2 : ins f' (x :: s) = x :: ins f' s := by simp [ins, hb]
      rw [e1, e2, List.map_cons, if_neg hxn, hs]
theorem put_self {l : List Fl} (h : Srt l) {f : Fl} (hf : f ∈ l) : put f l = l := by
  rw [put_map h hf rfl]
  have : ∀ g ∈ l, (if g.name = f.name then f else g) = g := fun g hg => by
    by_cases e : g.name = f.name
    · rw [if_pos e, srt_inj h hf hg e.symm]
    · rw [if_neg e]
  rw [List.map_congr_left (g := id) this]
  simp
theorem put_put {l : List Fl} (h : Srt l) {f f' : Fl} (hn : f'.name = f.name) : put f' (put f l) = put f' l := by
  rw [put_map (h.put f) (mem_put.2 (.inl rfl)) hn]
  unfold put
  rw [hn, ← hn]
  exact ins_map hn.symm _ fun x hx => (mem_del.1 hx).2
theorem look_put {l : List Fl} (h : Srt l) (f : Fl) : look f.name (put f l) = some f := look_mem (h.put f) (mem_put.2 (.inl rfl))
theorem look_put_other {l : List Fl} (h : Srt l) (f : Fl) {s : List UInt8} (hs : s ≠ f.name) : look s (put f l) = look s l := by
  rcases e : look s l with _ | g
  · rw [look_none] at e ⊢
    intro x hx
    rcases mem_put.1 hx with rfl | ⟨hx, _⟩
    · exact Ne.symm hs
    · exact e x hx
  · obtain ⟨h1, rfl⟩ := look_some e
    exact look_mem (h.put f) (mem_put.2 (.inr ⟨h1, hs⟩))
theorem look_del_other {l : List Fl} (h : Srt l) {s t : List UInt8} (hs : s ≠ t) : look s (del t l) = look s l := by
  rcases e : look s l with _ | g
  · rw [look_none] at e ⊢
    exact fun x hx => e x (mem_del.1 hx).1
  · obtain ⟨h1, rfl⟩ := look_some e
    exact look_mem (h.del t) (mem_del.2 ⟨h1, hs⟩)
theorem look_del {l : List Fl} (s : List UInt8) : look s (del s l) = none := look_none.2 fun _ hx => (mem_del.1 hx).2
theorem del_none {l : List Fl} {s : List UInt8} (h : look s l = none) : del s l = l := by
  rw [look_none] at h
  exact List.filter_eq_self.2 fun x hx => by simpa using h x hx
theorem used_grow {l : List Fl} (h : Srt l) (s d m : List UInt8) (y : Nat) : used (put ⟨s, d ++ m, y⟩ l) = used (put ⟨s, d, y⟩ l) + m.length := by
  have h1 := used_put h ⟨s, d ++ m, y⟩
  have h2 := used_put h ⟨s, d, y⟩
  simp only [List.length_append] at h1 h2
  omega

/-! ### the calls, told plainly -/
/-- The disk with the file s, a new one if there is none. -/
def made (D : Dsk) (s : List UInt8) : Dsk := match look s D.files with
  | some _ => D
  | none => { D with files := put ⟨s, [], 0⟩ D.files }
def fileOf (D : Dsk) (s : List UInt8) : Fl := match look s D.files with
  | some f => f
  | none => ⟨s, [], 0⟩
def app (D : Dsk) (s m : List UInt8) : Dsk := { D with files := put ⟨s, (fileOf D s).data ++ m, (fileOf D s).synced⟩ D.files }
theorem made_app (D : Dsk) (h : Srt D.files) (s m : List UInt8) : { made D s with files := put ⟨s, (fileOf D s).data ++ m, (fileOf D s).synced⟩ (made D s).files } = app D s m := by
  unfold made app
  rcases e : look s D.files with _ | f
  · exact congrArg (fun l => Dsk.mk D.size l D.born) (put_put h (f := ⟨s, [], 0⟩) rfl)
  · rfl
theorem look_made (D : Dsk) (h : Srt D.files) (s : List UInt8) : look s (made D s).files = some (fileOf D s) := by
  unfold made fileOf
  rcases e : look s D.files with _ | f
  · exact look_put h ⟨s, [], 0⟩
  · exact e
theorem fileOf_name (D : Dsk) (s : List UInt8) : (fileOf D s).name = s := by
  unfold fileOf
  rcases e : look s D.files with _ | f
  · rfl
  · exact (look_some e).2
theorem made_size (D : Dsk) (s : List UInt8) : (made D s).size = D.size ∧ (made D s).born = D.born := by
  unfold made
  rcases look s D.files with _ | f <;> exact ⟨rfl, rfl⟩
theorem fileOf_eta (D : Dsk) (s : List UInt8) : (⟨s, (fileOf D s).data, (fileOf D s).synced⟩ : Fl) = fileOf D s := by
  have h := fileOf_name D s
  generalize fileOf D s = f at *
  subst h
  rfl
theorem made_used (D : Dsk) (h : Srt D.files) (s : List UInt8) {α : Type} (m : α → List UInt8) : ∀ k, used (put ⟨s, (fileOf D s).data ++ m k, (fileOf D s).synced⟩ (made D s).files) = used D.files + (m k).length := by
  intro k
  have e : (made D s).files = put (fileOf D s) D.files := by
    unfold made fileOf
    rcases e : look s D.files with _ | f
    · rfl
    · exact (put_self h (look_some e).1).symm
  have hn := fileOf_name D s
  rw [e, put_put h (by rw [hn]), used_grow h]
  congr 1
  rw [fileOf_eta]
  unfold fileOf
  rcases e2 : look s D.files with _ | f
  · have := used_put h ⟨s, [], 0⟩
    simp only [e2, List.length_nil] at this
    simp only
    omega
  · rw [put_self h (look_some e2).1]

def sync1 (D : Dsk) (s : List UInt8) : Dsk := { D with files := put ⟨s, (fileOf D s).data, (fileOf D s).data.length⟩ D.files }
def syncs (D : Dsk) (names : List (List UInt8)) : Dsk := names.foldl sync1 D
def del1 (D : Dsk) (s : List UInt8) : Dsk := { D with files := del s D.files }
def dels (D : Dsk) (names : List (List UInt8)) : Dsk := names.foldl del1 D
def rename (D : Dsk) (a b : List UInt8) : Dsk := { D with files := put ⟨b, (fileOf D a).data, (fileOf D a).synced⟩ (del a (del b D.files)) }
theorem fold_snoc {α : Type} (g : Dsk → α → Dsk) (D : Dsk) (l : List α) (k : Nat) (h : k < l.length) : (l.take (k + 1)).foldl g D = g ((l.take k).foldl g D) l[k] := by
  rw [List.take_add_one, List.getElem?_eq_getElem h, List.foldl_append]
  rfl
theorem look_sync1 (D : Dsk) (h : Srt D.files) (s t : List UInt8) : (look t (sync1 D s).files).isSome = ((look t D.files).isSome || t == s) := by
  by_cases e : t = s
  · subst e
    have := look_put h ⟨t, (fileOf D t).data, (fileOf D t).data.length⟩
    unfold sync1
    simp only at this ⊢
    rw [this]
    simp
  · have := look_put_other h ⟨s, (fileOf D s).data, (fileOf D s).data.length⟩ e
    unfold sync1
    simp only
    rw [this]
    simp [e]
theorem fileOf_look {D : Dsk} {s : List UInt8} {f : Fl} (h : look s D.files = some f) : fileOf D s = f := by simp [fileOf, h]
theorem used_same {l : List Fl} (h : Srt l) {f f' : Fl} (hf : f ∈ l) (hn : f'.name = f.name) (hl : f'.data.length = f.data.length) : used (put f' l) = used l := by
  have := used_put h f'
  rw [hn, look_mem h hf] at this
  simp only at this
  omega
end Go.Proofs.YtlbfgkocpjlamaaGreatDoor
