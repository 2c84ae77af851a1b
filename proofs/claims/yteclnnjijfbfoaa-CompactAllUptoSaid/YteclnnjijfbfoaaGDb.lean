import Derived.Test.YteclnnjijfbfoaaGDa
import Derived.Lib.QuietBelow
import Derived.Test.YteclnnjijfbfoaaGCa
import Derived.MapKept
import Derived.Test.YteclnnjijfbfoaaMhC
import Derived.Test.YteclnnjijfbfoaaEnS
import Derived.Test.YteclnnjijfbfoaaOpM

/-
  Tables in levels, told plainly: what lists weigh, what is seen of lists that share no key, what parts of a list are.
-/
namespace Go.Proofs.Yteclnnjijfbfoaa

/-! ### what lists weigh -/
def swE (f : Ent → Nat) (l : List Ent) : Nat := (l.map f).sum
theorem sw_app (f : Ent → Nat) (a b : List Ent) : swE f (a ++ b) = swE f a + swE f b := by simp [swE]
theorem sw_cons (f : Ent → Nat) (x : Ent) (b : List Ent) : swE f (x :: b) = f x + swE f b := by simp [swE]
theorem sw_sub (f : Ent → Nat) {a b : List Ent} (h : a.Sublist b) : swE f a ≤ swE f b := by
  induction h with
  | slnil => exact Nat.le_refl _
  | cons x _ ih => rw [sw_cons]; omega
  | cons_cons x _ ih => rw [sw_cons, sw_cons]; omega
theorem sw_add (f : Ent → Nat) (m : List Ent) (y : Ent) : swE f (addL m y) ≤ swE f m + f y := by
  unfold addL
  split
  · omega
  · next h =>
    unfold putL
    rw [if_neg h]
    have h1 : swE f m = swE f (m.take (plcE y m)) + swE f (m.drop (plcE y m)) := by rw [← sw_app, List.take_append_drop]
    rw [sw_app, sw_cons]
    omega
theorem sw_two (f : Ent → Nat) : ∀ (b a : List Ent), swE f (twoL a b) ≤ swE f a + swE f b
  | [], a => by simp [twoL]
  | y :: r, a => by
    have h1 := sw_two f r (addL a y)
    have h2 := sw_add f a y
    have e : twoL a (y :: r) = twoL (addL a y) r := rfl
    rw [e, sw_cons]
    omega
theorem sw_from (f : Ent → Nat) : ∀ (ls : List (List Ent)) (m : List Ent), swE f (ls.foldl twoL m) ≤ swE f m + (ls.map (swE f)).sum
  | [], m => by simp
  | l :: r, m => by
    have h1 := sw_from f r (twoL m l)
    have h2 := sw_two f l m
    simp only [List.foldl_cons, List.map_cons, List.sum_cons]
    omega
theorem sw_mrg (f : Ent → Nat) (ls : List (List Ent)) : swE f (mrgL ls) ≤ (ls.map (swE f)).sum := by
  have h := sw_from f ls []
  have e : swE f [] = 0 := rfl
  unfold mrgL
  omega
theorem sw_flat (f : Ent → Nat) : ∀ ls : List (List Ent), swE f ls.flatten = (ls.map (swE f)).sum
  | [] => rfl
  | l :: r => by rw [List.flatten_cons, sw_app, sw_flat f r, List.map_cons, List.sum_cons]
def wtE (e : Ent) : Nat := e.key.length + e.val.length + 16
theorem wE_sw : ∀ l : List Ent, wE l = swE wtE l
  | [] => rfl
  | e :: r => by rw [sw_cons, wE, wE_sw r]; rfl
theorem len_sw : ∀ l : List Ent, l.length = swE (fun _ => 1) l
  | [] => rfl
  | e :: r => by rw [sw_cons, List.length_cons, len_sw r]; omega
theorem wE_bulk : ∀ l : List Ent, wE l = bulkE l + 16 * l.length
  | [] => rfl
  | e :: r => by
    have h := wE_bulk r
    have e1 : bulkE (e :: r) = e.key.length + e.val.length + bulkE r := by simp [bulkE]
    rw [wE, e1, List.length_cons, h]
    omega

/-! ### what is seen of lists that share no key -/
theorem seen_split {L A B : List Ent} (hL : SrtE L) (hA : SrtE A) (hB : SrtE B) (h : ∀ x, x ∈ L ↔ x ∈ A ∨ x ∈ B) (hd : ∀ x ∈ A, ∀ y ∈ B, x.key ≠ y.key) (up : Nat) (x : Ent) : x ∈ seenE L up ↔ x ∈ seenE A up ∨ x ∈ seenE B up := by
  rw [mem_seenE hL, mem_seenE hA, mem_seenE hB]
  constructor
  · rintro ⟨h1, h2, h3, h4⟩
    rcases (h x).1 h1 with h5 | h5
    · exact .inl ⟨h5, h2, h3, fun y hy => h4 y ((h y).2 (.inl hy))⟩
    · exact .inr ⟨h5, h2, h3, fun y hy => h4 y ((h y).2 (.inr hy))⟩
  · rintro (⟨h1, h2, h3, h4⟩ | ⟨h1, h2, h3, h4⟩)
    · refine ⟨(h x).2 (.inl h1), h2, h3, fun y hy hk hu => ?_⟩
      rcases (h y).1 hy with h5 | h5
      · exact h4 y h5 hk hu
      · exact absurd hk.symm (hd x h1 y h5)
    · refine ⟨(h x).2 (.inr h1), h2, h3, fun y hy hk hu => ?_⟩
      rcases (h y).1 hy with h5 | h5
      · exact absurd hk (hd y h5 x h1)
      · exact h4 y h5 hk hu
theorem seen_swap {L M A P B : List Ent} (hL : SrtE L) (hM : SrtE M) (hA : SrtE A) (hP : SrtE P) (hB : SrtE B) (h : ∀ x, x ∈ L ↔ x ∈ A ∨ x ∈ B) (hm : ∀ x, x ∈ M ↔ x ∈ P ∨ x ∈ B) (hd : ∀ x ∈ A, ∀ y ∈ B, x.key ≠ y.key) (hPA : ∀ x ∈ P, x ∈ A) (up : Nat) (he : seenE P up = seenE A up) : seenE M up = seenE L up := by
  refine srt_ext (srt_filter hM _) (srt_filter hL _) fun x => ?_
  rw [seen_split hM hP hB hm (fun x hx => hd x (hPA x hx)) up, seen_split hL hA hB h hd up, he]

/-! ### the first key, the last key -/
theorem key_le {l : List Ent} (hs : SrtE l) {i j : Nat} (hj : j < l.length) (hij : i ≤ j) : Op.bytesLess (l[j]).key (l[i]'(by omega)).key = false := by
  rcases Nat.lt_or_eq_of_le hij with h | rfl
  · rcases lessE_iff.1 (srt_at hs hj h) with h1 | ⟨h1, _⟩
    · exact lessB_asymm h1
    · rw [h1]; exact lessB_irrefl _
  · exact lessB_irrefl _
theorem hd_le {l : List Ent} (hs : SrtE l) {x : Ent} (hx : x ∈ l) : Op.bytesLess x.key (hdY l) = false := by
  obtain ⟨k, hk, rfl⟩ := List.getElem_of_mem hx
  rw [hdY_at (by omega)]
  exact key_le hs hk (by omega)
theorem la_ge {l : List Ent} (hs : SrtE l) {x : Ent} (hx : x ∈ l) : Op.bytesLess (laY l) x.key = false := by
  obtain ⟨k, hk, rfl⟩ := List.getElem_of_mem hx
  rw [laY_at (by omega)]
  exact key_le hs (by omega) (by omega)
theorem lt_le {a b c : List UInt8} (h : Op.bytesLess a b = true) (h2 : Op.bytesLess c b = false) : Op.bytesLess a c = true := by
  rcases Classical.em (b = c) with rfl | hn
  · exact h
  · rcases lessB_total hn with h3 | h3
    · exact lessB_trans h h3
    · rw [h3] at h2; cases h2
theorem le_lt {a b c : List UInt8} (h : Op.bytesLess b a = false) (h2 : Op.bytesLess b c = true) : Op.bytesLess a c = true := by
  rcases Classical.em (a = b) with rfl | hn
  · exact h2
  · rcases lessB_total hn with h3 | h3
    · exact lessB_trans h3 h2
    · rw [h3] at h; cases h
theorem hd_la {l : List Ent} (hs : SrtE l) (hn : l ≠ []) : Op.bytesLess (laY l) (hdY l) = false := by
  have h := List.length_pos_iff.2 hn
  rw [hdY_at h, laY_at h]
  exact key_le hs (by omega) (by omega)

/-! ### parts of a list -/
theorem prt_mem {l p : List Ent} {ps : List (List Ent)} (h : PrtS l l.length ps) (hp : p ∈ ps) : p.Sublist l := by
  have h1 := List.sublist_flatten_of_mem hp
  rw [h.flat, List.take_length] at h1
  exact h1
theorem prt_far {l : List Ent} {ps : List (List Ent)} (hs : SrtE l) (h : PrtS l l.length ps) : ∀ (d i : Nat) (p q : List Ent), ps[i]? = some p → ps[i + d + 1]? = some q → Op.bytesLess (laY p) (hdY q) = true
  | 0, i, p, q, h1, h2 => h.sep i p q h1 h2
  | d + 1, i, p, q, h1, h2 => by
    have hlt : i + (d + 1) + 1 < ps.length := (List.getElem?_eq_some_iff.1 h2).1
    have h3 : ps[i + d + 1]? = some ps[i + d + 1] := List.getElem?_eq_getElem (by omega)
    have h4 := prt_far hs h d i p _ h1 h3
    have h5 := h.sep (i + d + 1) _ q h3 h2
    have h6 := hd_la (hs.sublist (prt_mem h (List.mem_of_getElem? h3))) (h.ne _ (List.mem_of_getElem? h3))
    exact lessB_trans (lt_le h4 h6) h5
theorem prt_two {l : List Ent} {ps : List (List Ent)} (hs : SrtE l) (h : PrtS l l.length ps) {i j : Nat} {p q : List Ent} (h1 : ps[i]? = some p) (h2 : ps[j]? = some q) (hij : i < j) : Op.bytesLess (laY p) (hdY q) = true :=
  prt_far hs h (j - i - 1) i p q h1 (by rw [show i + (j - i - 1) + 1 = j by omega]; exact h2)
end Go.Proofs.Yteclnnjijfbfoaa

/-
  Tables in levels, told plainly: what a job's edit leaves is a tree again, lighter, and what is seen of it is what was seen.
-/
namespace Go.Proofs.Yteclnnjijfbfoaa

structure GoodT (F : Int → List Ent) (nx : Int) (t : Tab) : Prop where
  right : rightE (F t.file) = true
  fit : ∀ x ∈ F t.file, FitE x
  ne : F t.file ≠ []
  fst : t.first = hdY (F t.file)
  lst : t.last = laY (F t.file)
  siz : t.size = (wE (F t.file) : Int)
  lv0 : 0 ≤ t.level
  lv6 : t.level ≤ 6
  f0 : 0 ≤ t.file
  fn : t.file < nx
theorem GoodT.srt {F : Int → List Ent} {nx : Int} {t : Tab} (h : GoodT F nx t) : SrtE (F t.file) := (rightE_iff.1 h.right).2
theorem GoodT.of {F F' : Int → List Ent} {nx ny : Int} {t : Tab} (h : GoodT F nx t) (hF : F' t.file = F t.file) (hn : nx ≤ ny) : GoodT F' ny t :=
  ⟨by rw [hF]; exact h.right, by rw [hF]; exact h.fit, by rw [hF]; exact h.ne, by rw [hF]; exact h.fst, by rw [hF]; exact h.lst, by rw [hF]; exact h.siz, h.lv0, h.lv6, h.f0, Int.lt_of_lt_of_le h.fn hn⟩
def filesT (l : List Tab) : List Int := l.map Tab.file
theorem file_one : ∀ {l : List Tab}, (filesT l).Nodup → ∀ {t u : Tab}, t ∈ l → u ∈ l → t.file = u.file → t = u
  | [], _, _, _, h, _, _ => by cases h
  | a :: r, hn, t, u, ht, hu, e => by
    have h1 := List.nodup_cons.1 (show (a.file :: filesT r).Nodup from hn)
    rcases List.mem_cons.1 ht with rfl | ht2
    · rcases List.mem_cons.1 hu with rfl | hu2
      · rfl
      · exact absurd (by rw [e]; exact List.mem_map_of_mem hu2) h1.1
    · rcases List.mem_cons.1 hu with rfl | hu2
      · exact absurd (by rw [← e]; exact List.mem_map_of_mem ht2) h1.1
      · exact file_one h1.2 ht2 hu2 e
def entT (F : Int → List Ent) (l : List Tab) : List (List Ent) := l.map fun t => F t.file
/-- Each key is in one table. -/
structure KeysT (F : Int → List Ent) (l : List Tab) : Prop where
  nd : (filesT l).Nodup
  srt : ∀ t ∈ l, SrtE (F t.file)
  keys : ∀ t ∈ l, ∀ u ∈ l, t.file ≠ u.file → ∀ x ∈ F t.file, ∀ y ∈ F u.file, x.key ≠ y.key
theorem entT_srt {F : Int → List Ent} {l : List Tab} (h : ∀ t ∈ l, SrtE (F t.file)) : ∀ m ∈ entT F l, SrtE m := fun m hm => by
  obtain ⟨t, ht, rfl⟩ := List.mem_map.1 hm
  exact h t ht
theorem mrg_union {F : Int → List Ent} {l : List Tab} (h : KeysT F l) (x : Ent) : x ∈ mrgL (entT F l) ↔ ∃ t ∈ l, x ∈ F t.file := by
  have hm := (mrgL_is (entT_srt h.srt)).mem
  rw [hm]
  constructor
  · intro hx
    obtain ⟨m, h1, h2⟩ := inM_mem hx
    obtain ⟨t, ht, rfl⟩ := List.mem_map.1 h1
    exact ⟨t, ht, h2⟩
  · rintro ⟨t, ht, hx⟩
    obtain ⟨z, hz, ha⟩ := inM_cover (ls := entT F l) (List.mem_map_of_mem ht) hx
    obtain ⟨m, h1, h2⟩ := inM_mem hz
    obtain ⟨u, hu, rfl⟩ := List.mem_map.1 h1
    by_cases hf : u.file = t.file
    · rw [hf] at h2
      obtain rfl := srt_one (h.srt t ht) h2 hx ha
      exact hz
    · exact absurd (atE_iff.1 ha).1 (h.keys u hu t ht hf z h2 x hx)
theorem KeysT.sub {F : Int → List Ent} {l m : List Tab} (h : KeysT F l) (hs : ∀ t ∈ m, t ∈ l) (hn : (filesT m).Nodup) : KeysT F m :=
  ⟨hn, fun t ht => h.srt t (hs t ht), fun t ht u hu => h.keys t (hs t ht) u (hs u hu)⟩

/-! ### new tables -/
def nwT (lv : Int) : Int → List (List Ent) → List Tab
  | _, [] => []
  | nx, p :: r => ⟨nx, lv, hdY p, laY p, (wE p : Int)⟩ :: nwT lv (nx + 1) r
theorem nwT_len (lv : Int) : ∀ (ps : List (List Ent)) (nx : Int), (nwT lv nx ps).length = ps.length
  | [], _ => rfl
  | p :: r, nx => by rw [nwT, List.length_cons, List.length_cons, nwT_len lv r]
theorem nwT_snoc (lv : Int) : ∀ (ps : List (List Ent)) (nx : Int) (p : List Ent), nwT lv nx (ps ++ [p]) = nwT lv nx ps ++ [⟨nx + (ps.length : Int), lv, hdY p, laY p, (wE p : Int)⟩]
  | [], nx, p => by simp [nwT]
  | q :: r, nx, p => by
    rw [List.cons_append, nwT, nwT_snoc lv r (nx + 1) p, nwT, List.cons_append]
    congr 4
    simp only [List.length_cons]
    omega
theorem mem_nwT (lv : Int) : ∀ (ps : List (List Ent)) (nx : Int) (t : Tab), t ∈ nwT lv nx ps ↔ ∃ (k : Nat) (p : List Ent), ps[k]? = some p ∧ t = ⟨nx + (k : Int), lv, hdY p, laY p, (wE p : Int)⟩
  | [], nx, t => by simp [nwT]
  | q :: r, nx, t => by
    rw [nwT, List.mem_cons, mem_nwT lv r (nx + 1) t]
    constructor
    · rintro (rfl | ⟨k, p, h1, rfl⟩)
      · exact ⟨0, q, rfl, by simp⟩
      · exact ⟨k + 1, p, h1, by congr 1; omega⟩
    · rintro ⟨k, p, h1, rfl⟩
      cases k with
      | zero => obtain rfl := Option.some.inj h1; exact .inl (by simp)
      | succ k => exact .inr ⟨k, p, h1, by congr 1; omega⟩
theorem nwT_files (lv : Int) : ∀ (ps : List (List Ent)) (nx : Int), (filesT (nwT lv nx ps)).Nodup
  | [], nx => List.nodup_nil
  | p :: r, nx => by
    refine List.nodup_cons.2 ⟨fun h => ?_, nwT_files lv r (nx + 1)⟩
    obtain ⟨t, ht, he⟩ := List.mem_map.1 h
    obtain ⟨k, q, _, rfl⟩ := (mem_nwT lv r (nx + 1) t).1 ht
    have h3 : nx + 1 + (k : Int) = nx := he
    omega

/-! ### sums over tables -/
def smT (f : Tab → Nat) (l : List Tab) : Nat := (l.map f).sum
theorem sm_app (f : Tab → Nat) (a b : List Tab) : smT f (a ++ b) = smT f a + smT f b := by simp [smT]
theorem sm_cons (f : Tab → Nat) (t : Tab) (b : List Tab) : smT f (t :: b) = f t + smT f b := by simp [smT]
theorem sm_perm (f : Tab → Nat) {a b : List Tab} (h : a.Perm b) : smT f a = smT f b := (h.map f).sum_nat
theorem sm_le {f g : Tab → Nat} : ∀ {l : List Tab}, (∀ t ∈ l, f t ≤ g t) → smT f l ≤ smT g l
  | [], _ => Nat.le_refl _
  | t :: r, h => by
    have h1 := sm_le (l := r) fun x hx => h x (.tail _ hx)
    have h2 := h t (.head _)
    rw [sm_cons, sm_cons]
    omega
theorem sm_lt {f g : Tab → Nat} : ∀ {l : List Tab}, (∀ t ∈ l, f t ≤ g t) → (∃ t ∈ l, f t < g t) → smT f l < smT g l
  | [], _, h => by obtain ⟨t, h, _⟩ := h; cases h
  | t :: r, h, h3 => by
    have h1 := sm_le (l := r) fun x hx => h x (.tail _ hx)
    have h2 := h t (.head _)
    rw [sm_cons, sm_cons]
    obtain ⟨u, hu, hlt⟩ := h3
    rcases List.mem_cons.1 hu with rfl | hu
    · omega
    · have := sm_lt (l := r) (fun x hx => h x (.tail _ hx)) ⟨u, hu, hlt⟩
      omega
theorem sm_sub (f : Tab → Nat) : ∀ (U l : List Tab), (filesT U).Nodup → (∀ t ∈ U, t ∈ l) → smT f U ≤ smT f l
  | [], l, _, _ => Nat.zero_le _
  | t :: r, l, hn, h => by
    have h1 := List.nodup_cons.1 (show (t.file :: filesT r).Nodup from hn)
    obtain ⟨a, b, rfl⟩ := List.append_of_mem (h t (.head _))
    have h2 := sm_sub f r (a ++ b) h1.2 fun u hu => by
      rcases List.mem_append.1 (h u (.tail _ hu)) with h3 | h3
      · exact List.mem_append_left _ h3
      · rcases List.mem_cons.1 h3 with rfl | h3
        · exact absurd (List.mem_map_of_mem hu) h1.1
        · exact List.mem_append_right _ h3
    rw [sm_cons, sm_app, sm_cons]
    rw [sm_app] at h2
    omega
def isIn (U : List Tab) (t : Tab) : Bool := (filesT U).contains t.file
theorem isIn_iff {U : List Tab} {t : Tab} : isIn U t = true ↔ t.file ∈ filesT U := List.contains_iff_mem
def restT (ts U : List Tab) : List Tab := ts.filter fun t => !isIn U t
theorem mem_restT {ts U : List Tab} {t : Tab} : t ∈ restT ts U ↔ t ∈ ts ∧ t.file ∉ filesT U := by
  unfold restT
  rw [List.mem_filter, ← isIn_iff]
  simp
theorem sm_split (f : Tab → Nat) (ts U : List Tab) : smT f ts = smT f (ts.filter (isIn U)) + smT f (restT ts U) := by
  induction ts with
  | nil => rfl
  | cons t r ih =>
    unfold restT at ih ⊢
    rw [sm_cons, List.filter_cons, List.filter_cons, ih]
    rcases h : isIn U t with _ | _
    · simp [sm_cons]; omega
    · simp [sm_cons]; omega
theorem sm_in (f : Tab → Nat) {ts U : List Tab} (hn : (filesT U).Nodup) (h : ∀ t ∈ U, t ∈ ts) : smT f U + smT f (restT ts U) ≤ smT f ts := by
  have h1 := sm_sub f U (ts.filter (isIn U)) hn fun t ht => List.mem_filter.2 ⟨h t ht, isIn_iff.2 (List.mem_map_of_mem ht)⟩
  rw [sm_split f ts U]
  omega
theorem sm_ent (f : Ent → Nat) (F : Int → List Ent) (U : List Tab) : ((entT F U).map (swE f)).sum = smT (fun t => swE f (F t.file)) U := by
  unfold entT smT
  rw [List.map_map]
  rfl
end Go.Proofs.Yteclnnjijfbfoaa

/-
  Tables in levels, told plainly: a job, and what its edit leaves.
-/
namespace Go.Proofs.Yteclnnjijfbfoaa

structure TreeT (F : Int → List Ent) (nx : Int) (ts : List Tab) : Prop where
  good : ∀ t ∈ ts, GoodT F nx t
  k : KeysT F ts
  lv1 : ∀ t ∈ ts, 1 ≤ t.level
  part : ∀ t ∈ ts, ∀ u ∈ ts, t.file ≠ u.file → t.level = u.level → Op.bytesLess t.last u.first = true ∨ Op.bytesLess u.last t.first = true
theorem TreeT.sub {F : Int → List Ent} {nx : Int} {ts us : List Tab} (h : TreeT F nx ts) (hs : us.Sublist ts) : TreeT F nx us :=
  ⟨fun t ht => h.good t (hs.subset ht), h.k.sub (fun _ ht => hs.subset ht) (h.k.nd.sublist (hs.map _)), fun t ht => h.lv1 t (hs.subset ht), fun t ht u hu => h.part t (hs.subset ht) u (hs.subset hu)⟩
/-- What a job takes of tables. -/
structure JobT (F : Int → List Ent) (nx : Int) (ts U : List Tab) (lv : Int) : Prop where
  good : ∀ t ∈ ts, GoodT F nx t
  nd : (filesT ts).Nodup
  inn : ∀ t ∈ U, t ∈ ts
  ndU : (filesT U).Nodup
  lvU : ∀ t ∈ U, t.level ≤ lv + 1
  one : ∃ t ∈ U, t.level ≤ lv
  lv0 : 0 ≤ lv
  lv5 : lv ≤ 5
  rest : TreeT F nx (restT ts U)
  far : ∀ t ∈ restT ts U, ∀ u ∈ U, ∀ x ∈ F t.file, ∀ y ∈ F u.file, x.key ≠ y.key
  sep : ∀ t ∈ restT ts U, t.level = lv + 1 → (∀ u ∈ U, Op.bytesLess t.last u.first = true) ∨ (∀ u ∈ U, Op.bytesLess u.last t.first = true)
  mrg : ∀ x, x ∈ mrgL (entT F ts) ↔ x ∈ mrgL (entT F U) ∨ ∃ t ∈ restT ts U, x ∈ F t.file
theorem rest_sub (ts U : List Tab) : (restT ts U).Sublist ts := List.filter_sublist

theorem nw_sum (f : Ent → Nat) (F' : Int → List Ent) (lv : Int) : ∀ (ps : List (List Ent)) (nx : Int), (∀ (k : Nat) (p : List Ent), ps[k]? = some p → F' (nx + (k : Int)) = p) → smT (fun t => swE f (F' t.file)) (nwT lv nx ps) = swE f ps.flatten
  | [], nx, _ => rfl
  | p :: r, nx, h => by
    have h1 := nw_sum f F' lv r (nx + 1) fun k q hq => by
      have := h (k + 1) q hq
      rw [← this]
      congr 1
      omega
    have h2 : F' nx = p := by simpa using h 0 p rfl
    rw [nwT, sm_cons, h1, List.flatten_cons, sw_app]
    show swE f (F' nx) + _ = _
    rw [h2]
theorem nw_mu (F' : Int → List Ent) (lv : Int) : ∀ (ps : List (List Ent)) (nx : Int), (∀ (k : Nat) (p : List Ent), ps[k]? = some p → F' (nx + (k : Int)) = p) → smT (fun t => (F' t.file).length * (7 - t.level).toNat) (nwT lv nx ps) = ps.flatten.length * (7 - lv).toNat
  | [], nx, _ => by simp [nwT, smT]
  | p :: r, nx, h => by
    have h1 := nw_mu F' lv r (nx + 1) fun k q hq => by
      have := h (k + 1) q hq
      rw [← this]
      congr 1
      omega
    have h2 : F' nx = p := by simpa using h 0 p rfl
    rw [nwT, sm_cons, h1, List.flatten_cons, List.length_append, Nat.add_mul]
    show (F' nx).length * (7 - lv).toNat + _ = _
    rw [h2]
theorem sm_mul (f : Tab → Nat) (c : Nat) : ∀ l : List Tab, smT (fun t => f t * c) l = smT f l * c
  | [] => by simp [smT]
  | t :: r => by rw [sm_cons, sm_cons, sm_mul f c r, Nat.add_mul]
theorem sm_eq {f g : Tab → Nat} {l : List Tab} (h : ∀ t ∈ l, f t = g t) : smT f l = smT g l := by
  unfold smT
  rw [List.map_congr_left h]
def muT (F : Int → List Ent) (ts : List Tab) : Nat := smT (fun t => (F t.file).length * (7 - t.level).toNat) ts
def szT (f : Ent → Nat) (F : Int → List Ent) (ts : List Tab) : Nat := smT (fun t => swE f (F t.file)) ts

section
variable {F F' : Int → List Ent} {nx : Int} {ts ts' U : List Tab} {lv : Int} {ps : List (List Ent)} {keep up : Nat} {bot : Bool} {P : List Ent}
theorem step_mem (hj : JobT F nx ts U lv) (hP : P = prnE (mrgL (entT F U)) keep bot) : SrtE (mrgL (entT F U)) ∧ rightE P = true ∧ ∀ x ∈ P, x ∈ mrgL (entT F U) ∧ ∃ u ∈ U, x ∈ F u.file := by
  have hr : ∀ m ∈ entT F U, rightE m = true := fun m hm => by
    obtain ⟨t, ht, rfl⟩ := List.mem_map.1 hm
    exact (hj.good t (hj.inn t ht)).right
  have hMr := mrgL_right hr
  refine ⟨(rightE_iff.1 hMr).2, by rw [hP]; exact right_sub hMr (prn_sub _ _ _), fun x hx => ?_⟩
  rw [hP] at hx
  have h1 := (prn_sub _ _ _).subset hx
  obtain ⟨m, h2, h3⟩ := inM_mem (((mrgL_is fun m hm => (rightE_iff.1 (hr m hm)).2).mem x).1 h1)
  obtain ⟨u, hu, rfl⟩ := List.mem_map.1 h2
  exact ⟨h1, u, hu, h3⟩
theorem step_tree (hj : JobT F nx ts U lv) (hP : P = prnE (mrgL (entT F U)) keep bot) (hps : PrtS P P.length ps) (hF1 : ∀ f, f < nx → F' f = F f) (hF2 : ∀ (k : Nat) (p : List Ent), ps[k]? = some p → F' (nx + (k : Int)) = p)
    (hp : ts'.Perm (restT ts U ++ nwT (lv + 1) nx ps)) (hnx : 0 ≤ nx) : TreeT F' (nx + (ps.length : Int)) ts' := by
  obtain ⟨hMs, hPr, hPm⟩ := step_mem hj hP
  have hPs := (rightE_iff.1 hPr).2
  have hmem : ∀ t, t ∈ ts' ↔ t ∈ restT ts U ∨ t ∈ nwT (lv + 1) nx ps := fun t => by rw [hp.mem_iff, List.mem_append]
  have hrF : ∀ t ∈ restT ts U, F' t.file = F t.file := fun t ht => hF1 _ (hj.rest.good t ht).fn
  have hng : ∀ t ∈ nwT (lv + 1) nx ps, GoodT F' (nx + (ps.length : Int)) t := fun t ht => by
    obtain ⟨k, p, h1, rfl⟩ := (mem_nwT _ _ _ _).1 ht
    have h2 := hF2 k p h1
    have h3 := prt_mem hps (List.mem_of_getElem? h1)
    have h4 := (List.getElem?_eq_some_iff.1 h1).1
    have h5 := hj.lv0
    have h6 := hj.lv5
    refine ⟨?_, ?_, ?_, ?_, ?_, ?_, ?_, ?_, ?_, ?_⟩ <;> try simp only [h2]
    · exact right_sub hPr h3
    · intro x hx
      obtain ⟨_, u, hu, hxu⟩ := hPm x (h3.subset hx)
      exact (hj.good u (hj.inn u hu)).fit x hxu
    · exact hps.ne p (List.mem_of_getElem? h1)
    · omega
    · omega
    · omega
    · omega
  have hgood : ∀ t ∈ ts', GoodT F' (nx + (ps.length : Int)) t := fun t ht => by
    rcases (hmem t).1 ht with h | h
    · exact (hj.rest.good t h).of (hrF t h) (by omega)
    · exact hng t h
  have hnd : (filesT ts').Nodup := by
    have h1 : (filesT ts').Perm (filesT (restT ts U ++ nwT (lv + 1) nx ps)) := hp.map _
    rw [h1.nodup_iff]
    unfold filesT
    rw [List.map_append, List.nodup_append]
    refine ⟨hj.rest.k.nd, nwT_files _ _ _, fun a ha b hb e => ?_⟩
    obtain ⟨t, ht, rfl⟩ := List.mem_map.1 ha
    obtain ⟨u, hu, rfl⟩ := List.mem_map.1 hb
    obtain ⟨k, p, _, rfl⟩ := (mem_nwT _ _ _ _).1 hu
    have h2 := (hj.rest.good t ht).fn
    have h3 : t.file = nx + (k : Int) := e
    omega
  have hfar : ∀ t ∈ restT ts U, ∀ u ∈ nwT (lv + 1) nx ps, ∀ x ∈ F' t.file, ∀ y ∈ F' u.file, x.key ≠ y.key := fun t ht u hu x hx y hy => by
    obtain ⟨k, p, h1, rfl⟩ := (mem_nwT _ _ _ _).1 hu
    rw [hrF t ht] at hx
    rw [hF2 k p h1] at hy
    obtain ⟨_, w, hw, hyw⟩ := hPm y ((prt_mem hps (List.mem_of_getElem? h1)).subset hy)
    exact hj.far t ht w hw x hx y hyw
  have hnn : ∀ (k j : Nat) (p q : List Ent), ps[k]? = some p → ps[j]? = some q → k < j → ∀ x ∈ p, ∀ y ∈ q, Op.bytesLess x.key y.key = true := fun k j p q h1 h2 hkj x hx y hy =>
    lt_le (le_lt (la_ge (hPs.sublist (prt_mem hps (List.mem_of_getElem? h1))) hx) (prt_two hPs hps h1 h2 hkj)) (hd_le (hPs.sublist (prt_mem hps (List.mem_of_getElem? h2))) hy)
  have hsep : ∀ t ∈ restT ts U, ∀ u ∈ nwT (lv + 1) nx ps, t.level = u.level → Op.bytesLess t.last u.first = true ∨ Op.bytesLess u.last t.first = true := fun t ht u hu he => by
    obtain ⟨k, p, h1, rfl⟩ := (mem_nwT _ _ _ _).1 hu
    have hpm := List.mem_of_getElem? h1
    have h0 := List.length_pos_iff.2 (hps.ne p hpm)
    rcases hj.sep t ht he with h | h
    · left
      show Op.bytesLess t.last (hdY p) = true
      rw [hdY_at h0]
      obtain ⟨_, w, hw, hx⟩ := hPm _ ((prt_mem hps hpm).subset (List.getElem_mem h0))
      have h3 := h w hw
      rw [(hj.good w (hj.inn w hw)).fst] at h3
      exact lt_le h3 (hd_le (hj.good w (hj.inn w hw)).srt hx)
    · right
      show Op.bytesLess (laY p) t.first = true
      rw [laY_at h0]
      obtain ⟨_, w, hw, hx⟩ := hPm _ ((prt_mem hps hpm).subset (List.getElem_mem (by omega : p.length - 1 < p.length)))
      have h3 := h w hw
      rw [(hj.good w (hj.inn w hw)).lst] at h3
      exact le_lt (la_ge (hj.good w (hj.inn w hw)).srt hx) h3
  refine ⟨hgood, ⟨hnd, fun t ht => (hgood t ht).srt, fun t ht u hu hn x hx y hy => ?_⟩, fun t ht => ?_, fun t ht u hu hn he => ?_⟩
  · rcases (hmem t).1 ht with h1 | h1
    · rcases (hmem u).1 hu with h2 | h2
      · rw [hrF t h1] at hx
        rw [hrF u h2] at hy
        exact hj.rest.k.keys t h1 u h2 hn x hx y hy
      · exact hfar t h1 u h2 x hx y hy
    · rcases (hmem u).1 hu with h2 | h2
      · exact (hfar u h2 t h1 y hy x hx).symm
      · obtain ⟨k, p, h3, rfl⟩ := (mem_nwT _ _ _ _).1 h1
        obtain ⟨j, q, h4, rfl⟩ := (mem_nwT _ _ _ _).1 h2
        rw [hF2 k p h3] at hx
        rw [hF2 j q h4] at hy
        rcases Nat.lt_trichotomy k j with h5 | h5 | h5
        · exact lessB_ne (hnn k j p q h3 h4 h5 x hx y hy)
        · exact absurd (by rw [h5]) hn
        · exact (lessB_ne (hnn j k q p h4 h3 h5 y hy x hx)).symm
  · rcases (hmem t).1 ht with h1 | h1
    · exact hj.rest.lv1 t h1
    · obtain ⟨k, p, _, rfl⟩ := (mem_nwT _ _ _ _).1 h1
      have := hj.lv0
      show 1 ≤ lv + 1
      omega
  · rcases (hmem t).1 ht with h1 | h1
    · rcases (hmem u).1 hu with h2 | h2
      · exact hj.rest.part t h1 u h2 hn he
      · exact hsep t h1 u h2 he
    · rcases (hmem u).1 hu with h2 | h2
      · exact (hsep u h2 t h1 he.symm).symm
      · obtain ⟨k, p, h3, rfl⟩ := (mem_nwT _ _ _ _).1 h1
        obtain ⟨j, q, h4, rfl⟩ := (mem_nwT _ _ _ _).1 h2
        rcases Nat.lt_trichotomy k j with h5 | h5 | h5
        · exact .inl (prt_two hPs hps h3 h4 h5)
        · exact absurd (by rw [h5]) hn
        · exact .inr (prt_two hPs hps h4 h3 h5)
theorem step_seen (hj : JobT F nx ts U lv) (hP : P = prnE (mrgL (entT F U)) keep bot) (hps : PrtS P P.length ps) (hF1 : ∀ f, f < nx → F' f = F f) (hF2 : ∀ (k : Nat) (p : List Ent), ps[k]? = some p → F' (nx + (k : Int)) = p)
    (hp : ts'.Perm (restT ts U ++ nwT (lv + 1) nx ps)) (hnx : 0 ≤ nx) (hku : keep ≤ up) : seenE (mrgL (entT F' ts')) up = seenE (mrgL (entT F ts)) up := by
  have hT := step_tree hj hP hps hF1 hF2 hp hnx
  obtain ⟨hMs, hPr, hPm⟩ := step_mem hj hP
  have hPs := (rightE_iff.1 hPr).2
  have hLs : SrtE (mrgL (entT F ts)) := (mrgL_is (entT_srt fun t ht => (hj.good t ht).srt)).srt
  have hNs : SrtE (mrgL (entT F' ts')) := (mrgL_is (entT_srt hT.k.srt)).srt
  have hBs : SrtE (mrgL (entT F (restT ts U))) := (mrgL_is (entT_srt hj.rest.k.srt)).srt
  refine seen_swap hLs hNs hMs hPs hBs (fun x => ?_) (fun x => ?_) (fun x hx y hy => ?_) (fun x hx => (hPm x hx).1) up (by rw [hP]; exact seen_prn hMs hku bot)
  · rw [hj.mrg x, mrg_union hj.rest.k x]
  · rw [mrg_union hT.k x, mrg_union hj.rest.k x]
    have hfl : ps.flatten = P := by rw [hps.flat, List.take_length]
    constructor
    · rintro ⟨t, ht, hx⟩
      rw [hp.mem_iff, List.mem_append] at ht
      rcases ht with h1 | h1
      · exact .inr ⟨t, h1, by rw [hF1 _ (hj.rest.good t h1).fn] at hx; exact hx⟩
      · obtain ⟨k, p, h3, rfl⟩ := (mem_nwT _ _ _ _).1 h1
        rw [hF2 k p h3] at hx
        exact .inl ((prt_mem hps (List.mem_of_getElem? h3)).subset hx)
    · rintro (hx | ⟨t, ht, hx⟩)
      · rw [← hfl] at hx
        obtain ⟨p, h3, h4⟩ := List.mem_flatten.1 hx
        obtain ⟨k, hk, rfl⟩ := List.getElem_of_mem h3
        refine ⟨_, hp.mem_iff.2 (List.mem_append_right _ ((mem_nwT _ _ _ _).2 ⟨k, _, List.getElem?_eq_getElem hk, rfl⟩)), ?_⟩
        rw [hF2 k _ (List.getElem?_eq_getElem hk)]
        exact h4
      · exact ⟨t, hp.mem_iff.2 (List.mem_append_left _ ht), by rw [hF1 _ (hj.rest.good t ht).fn]; exact hx⟩
  · obtain ⟨u, hu, hxu⟩ : ∃ u ∈ U, x ∈ F u.file := by
      have hs : ∀ m ∈ entT F U, SrtE m := entT_srt fun t ht => (hj.good t (hj.inn t ht)).srt
      obtain ⟨m, h2, h3⟩ := inM_mem (((mrgL_is hs).mem x).1 hx)
      obtain ⟨u, hu, rfl⟩ := List.mem_map.1 h2
      exact ⟨u, hu, h3⟩
    obtain ⟨t, ht, hyt⟩ := (mrg_union hj.rest.k y).1 hy
    exact (hj.far t ht u hu y hyt x hxu).symm
theorem step_size (f : Ent → Nat) (hj : JobT F nx ts U lv) (hP : P = prnE (mrgL (entT F U)) keep bot) (hps : PrtS P P.length ps) (hF1 : ∀ g, g < nx → F' g = F g) (hF2 : ∀ (k : Nat) (p : List Ent), ps[k]? = some p → F' (nx + (k : Int)) = p)
    (hp : ts'.Perm (restT ts U ++ nwT (lv + 1) nx ps)) : szT f F' ts' ≤ szT f F ts := by
  have hfl : ps.flatten = P := by rw [hps.flat, List.take_length]
  unfold szT
  rw [sm_perm _ hp, sm_app, nw_sum f F' (lv + 1) ps nx hF2, hfl, hP, sm_eq (g := fun t => swE f (F t.file)) fun t ht => by rw [hF1 _ (hj.rest.good t ht).fn]]
  have h1 := sw_sub f (prn_sub (mrgL (entT F U)) keep bot)
  have h2 := sw_mrg f (entT F U)
  rw [sm_ent] at h2
  have h3 := sm_in (fun t => swE f (F t.file)) hj.ndU hj.inn
  omega
theorem step_mu (hj : JobT F nx ts U lv) (hP : P = prnE (mrgL (entT F U)) keep bot) (hps : PrtS P P.length ps) (hF1 : ∀ g, g < nx → F' g = F g) (hF2 : ∀ (k : Nat) (p : List Ent), ps[k]? = some p → F' (nx + (k : Int)) = p)
    (hp : ts'.Perm (restT ts U ++ nwT (lv + 1) nx ps)) : muT F' ts' < muT F ts := by
  have hfl : ps.flatten = P := by rw [hps.flat, List.take_length]
  have h0 := hj.lv0
  have h5 := hj.lv5
  unfold muT
  rw [sm_perm _ hp, sm_app, nw_mu F' (lv + 1) ps nx hF2, hfl, sm_eq (g := fun t => (F t.file).length * (7 - t.level).toNat) fun t ht => by rw [hF1 _ (hj.rest.good t ht).fn]]
  have h1 : P.length ≤ smT (fun t => (F t.file).length) U := by
    have h1 := (prn_sub (mrgL (entT F U)) keep bot).length_le
    rw [← hP] at h1
    have h2 := sw_mrg (fun _ => 1) (entT F U)
    rw [sm_ent, ← len_sw, sm_eq (g := fun t => (F t.file).length) fun t _ => (len_sw _).symm] at h2
    omega
  have h2 := Nat.mul_le_mul_right (7 - (lv + 1)).toNat h1
  rw [← sm_mul] at h2
  have h3 : smT (fun t => (F t.file).length * (7 - (lv + 1)).toNat) U < smT (fun t => (F t.file).length * (7 - t.level).toNat) U := by
    refine sm_lt (fun t ht => Nat.mul_le_mul_left _ ?_) ?_
    · have := hj.lvU t ht
      omega
    · obtain ⟨t, ht, hl⟩ := hj.one
      have hl0 := (hj.good t (hj.inn t ht)).lv0
      exact ⟨t, ht, Nat.mul_lt_mul_of_pos_left (by omega) (List.length_pos_iff.2 (hj.good t (hj.inn t ht)).ne)⟩
  have h4 := sm_in (fun t => (F t.file).length * (7 - t.level).toNat) hj.ndU hj.inn
  omega
end

/-! ### the two kinds of jobs -/
theorem rest_all (ts : List Tab) : restT ts ts = [] := by
  unfold restT
  rw [List.filter_eq_nil_iff]
  intro t ht
  rw [isIn_iff.2 (List.mem_map_of_mem ht)]
  simp
theorem TreeT.nil {F : Int → List Ent} {nx : Int} : TreeT F nx [] := ⟨fun t h => (by cases h), ⟨List.nodup_nil, fun t h => (by cases h), fun t h => (by cases h)⟩, fun t h => (by cases h), fun t h => (by cases h)⟩
theorem job_all {F : Int → List Ent} {nx : Int} {ts : List Tab} (hg : ∀ t ∈ ts, GoodT F nx t) (hn : (filesT ts).Nodup) (h0 : ∀ t ∈ ts, t.level = 0) (hne : ts ≠ []) : JobT F nx ts ts 0 := by
  have hr := rest_all ts
  refine ⟨hg, hn, fun t h => h, hn, fun t ht => by rw [h0 t ht]; omega, ?_, by omega, by omega, ?_, ?_, ?_, fun x => ?_⟩
  · obtain ⟨t, r, rfl⟩ := List.exists_cons_of_ne_nil hne
    exact ⟨t, .head _, by rw [h0 t (.head _)]; omega⟩
  · rw [hr]; exact TreeT.nil
  · rw [hr]; intro t h; cases h
  · rw [hr]; intro t h; cases h
  · rw [hr]; simp
theorem not_leY {a b : List UInt8} : leY a b = false ↔ Op.bytesLess b a = true := by
  unfold leY
  constructor
  · intro h
    rw [Bool.or_eq_false_iff] at h
    have hn : a ≠ b := by simpa using h.2
    rcases lessB_total hn with h3 | h3
    · rw [h3] at h; simp at h
    · exact h3
  · intro h
    have h1 := lessB_asymm h
    have h2 : (a == b) = false := by simpa using (lessB_ne h).symm
    rw [h1, h2]
    rfl
theorem leY_le {a b : List UInt8} (h : leY a b = true) : Op.bytesLess b a = false := by
  rcases e : Op.bytesLess b a with _ | _
  · rfl
  · rw [not_leY.2 e] at h; cases h
theorem mem_ovT {lv : Int} {s : List UInt8 × List UInt8} {l : List Tab} {t : Tab} : t ∈ ovT lv s l ↔ t ∈ l ∧ t.level = lv ∧ shY s t = true := by
  unfold ovT lvT
  rw [List.mem_filter, List.mem_filter]
  simp [and_assoc]
theorem ov_sub (lv : Int) (s : List UInt8 × List UInt8) (l : List Tab) : (ovT lv s l).Sublist l := List.filter_sublist.trans List.filter_sublist
theorem job_tree {F : Int → List Ent} {nx : Int} {ts : List Tab} (h : TreeT F nx ts) {t : Tab} (ht : t ∈ ts) (h5 : t.level ≤ 5) : JobT F nx ts ([t] ++ ovT (t.level + 1) (t.first, t.last) ts) t.level := by
  have hU : ∀ u ∈ [t] ++ ovT (t.level + 1) (t.first, t.last) ts, u ∈ ts := fun u hu => by
    rcases List.mem_append.1 hu with h1 | h1
    · rw [List.mem_singleton.1 h1]; exact ht
    · exact (mem_ovT.1 h1).1
  have hnd : (filesT ([t] ++ ovT (t.level + 1) (t.first, t.last) ts)).Nodup := by
    refine List.nodup_cons.2 ⟨fun h1 => ?_, h.k.nd.sublist ((ov_sub _ _ _).map _)⟩
    obtain ⟨u, hu, he⟩ := List.mem_map.1 h1
    have h2 := mem_ovT.1 hu
    have := file_one h.k.nd h2.1 ht he
    subst this
    omega
  have h1 := h.lv1 t ht
  have hle : ∀ u ∈ ts, Op.bytesLess u.last u.first = false := fun u hu => by
    rw [(h.good u hu).fst, (h.good u hu).lst]
    exact hd_la (h.good u hu).srt (h.good u hu).ne
  refine ⟨h.good, h.k.nd, hU, hnd, fun u hu => ?_, ⟨t, by simp, Int.le_refl _⟩, by omega, h5, h.sub (rest_sub _ _), fun r hr u hu x hx y hy => ?_, fun r hr hl => ?_, fun x => ?_⟩
  · rcases List.mem_append.1 hu with h2 | h2
    · rw [List.mem_singleton.1 h2]; omega
    · rw [(mem_ovT.1 h2).2.1]; omega
  · obtain ⟨hr1, hr2⟩ := mem_restT.1 hr
    exact h.k.keys r hr1 u (hU u hu) (fun e => hr2 (by rw [e]; exact List.mem_map_of_mem hu)) x hx y hy
  · obtain ⟨hr1, hr2⟩ := mem_restT.1 hr
    have hno : shY (t.first, t.last) r = false := by
      rcases e : shY (t.first, t.last) r with _ | _
      · rfl
      · exact absurd (List.mem_map_of_mem (List.mem_append_right _ (mem_ovT.2 ⟨hr1, hl, e⟩))) hr2
    have hro : ∀ o ∈ ovT (t.level + 1) (t.first, t.last) ts, Op.bytesLess r.last o.first = true ∨ Op.bytesLess o.last r.first = true := fun o ho =>
      h.part r hr1 o (mem_ovT.1 ho).1 (fun e => hr2 (by rw [e]; exact List.mem_map_of_mem (List.mem_append_right _ ho))) (by rw [hl, (mem_ovT.1 ho).2.1])
    have hsh : ∀ o ∈ ovT (t.level + 1) (t.first, t.last) ts, Op.bytesLess t.last o.first = false ∧ Op.bytesLess o.last t.first = false := fun o ho => by
      have h2 := (mem_ovT.1 ho).2.2
      unfold shY at h2
      rw [Bool.and_eq_true] at h2
      exact ⟨leY_le h2.1, leY_le h2.2⟩
    unfold shY at hno
    rw [Bool.and_eq_false_iff] at hno
    rcases hno with h2 | h2
    · right
      have h3 := not_leY.1 h2
      intro u hu
      rcases List.mem_append.1 hu with h4 | h4
      · rw [List.mem_singleton.1 h4]; exact h3
      · rcases hro u h4 with h6 | h6
        · have h7 := lessB_trans (lt_le h3 (hle r hr1)) h6
          rw [(hsh u h4).1] at h7
          cases h7
        · exact h6
    · left
      have h3 := not_leY.1 h2
      intro u hu
      rcases List.mem_append.1 hu with h4 | h4
      · rw [List.mem_singleton.1 h4]; exact h3
      · rcases hro u h4 with h6 | h6
        · exact h6
        · have h7 := lessB_trans (lt_le h6 (hle r hr1)) h3
          rw [(hsh u h4).2] at h7
          cases h7
  · rw [mrg_union h.k x, mrg_union (h.k.sub hU hnd) x]
    constructor
    · rintro ⟨u, hu, hx⟩
      by_cases hf : u.file ∈ filesT ([t] ++ ovT (t.level + 1) (t.first, t.last) ts)
      · obtain ⟨w, hw, he⟩ := List.mem_map.1 hf
        obtain rfl := file_one h.k.nd (hU w hw) hu he
        exact .inl ⟨w, hw, hx⟩
      · exact .inr ⟨u, mem_restT.2 ⟨hu, hf⟩, hx⟩
    · rintro (⟨u, hu, hx⟩ | ⟨u, hu, hx⟩)
      · exact ⟨u, hU u hu, hx⟩
      · exact ⟨u, (mem_restT.1 hu).1, hx⟩
end Go.Proofs.Yteclnnjijfbfoaa

/-
  The walks over glacierref8.Compare, place and parted.
-/
namespace Go.Proofs.Yteclnnjijfbfoaa
open Go.RowKit

/-- How the reference orders tables. -/
def cmpT (a b : Tab) : Int :=
  if (a.level != b.level) = true then (if decide (a.level < b.level) = true then -1 else 1)
  else if (a.first == b.first) = false then (if Op.bytesLess a.first b.first = true then -1 else 1)
  else if decide (a.file < b.file) = true then -1 else if decide (b.file < a.file) = true then 1 else 0

set_option maxRecDepth 100000 in
set_option maxHeartbeats 4000000 in
theorem tcmp_any (w : World) (a b : Tab) :
    Calls Try.prog 57 #[.agg #[.int .i64 a.file, .int .i64 a.level, .string ⟨a.first.toArray⟩, .string ⟨a.last.toArray⟩, .int .i64 a.size], .agg #[.int .i64 b.file, .int .i64 b.level, .string ⟨b.first.toArray⟩, .string ⟨b.last.toArray⟩, .int .i64 b.size]] w
      fun x w' => x = .returned (.int .i64 (cmpT a b)) ∧ Below w.heap.size w w' := by
  obtain ⟨af, al, aa, az, asz⟩ := a
  obtain ⟨bf, bl, ba, bz, bs⟩ := b
  unfold cmpT
  dsimp only
  obtain ⟨X, hX⟩ : ∃ X, (w.alloc (.cells #[.int .i64 af, .int .i64 al, .string ⟨aa.toArray⟩, .string ⟨az.toArray⟩, .int .i64 asz] 49)).alloc (.cells #[.int .i64 bf, .int .i64 bl, .string ⟨ba.toArray⟩, .string ⟨bz.toArray⟩, .int .i64 bs] 49) = X := ⟨_, rfl⟩
  have hb : Below w.heap.size w X := by rw [← hX]; exact ((Below.refl _ _).alloc (Nat.le_refl _) _).alloc (by simp) _
  have hXa : X.heap[w.heap.size]? = some (.cells #[.int .i64 af, .int .i64 al, .string ⟨aa.toArray⟩, .string ⟨az.toArray⟩, .int .i64 asz] 49 (0, 0)) := by
    rw [← hX]
    exact (alloc_old (by simp) _).trans (heap_alloc_new w _)
  have hXb : X.heap[w.heap.size + 1]? = some (.cells #[.int .i64 bf, .int .i64 bl, .string ⟨ba.toArray⟩, .string ⟨bz.toArray⟩, .int .i64 bs] 49 (0, 0)) := by
    rw [← hX]
    exact heap_alloc2_new w _ _
  have a0 := cell_of (i := 0) hXa rfl
  have a1 := cell_of (i := 1) hXa rfl
  have a2 := cell_of (i := 2) hXa rfl
  have b0 := cell_of (i := 0) hXb rfl
  have b1 := cell_of (i := 1) hXb rfl
  have b2 := cell_of (i := 2) hXb rfl
  have HB := Lib.hid hb
  clear hb hXa hXb
  have hways : ∃ c : Int, (if (al != bl) = true then (if decide (al < bl) = true then -1 else 1) else if (aa == ba) = false then (if Op.bytesLess aa ba = true then -1 else 1) else if decide (af < bf) = true then -1 else if decide (bf < af) = true then 1 else 0) = c ∧
      (((al != bl) = true ∧ decide (al < bl) = true ∧ c = -1) ∨ ((al != bl) = true ∧ decide (al < bl) = false ∧ c = 1) ∨ ((al != bl) = false ∧ (aa == ba) = false ∧ Op.bytesLess aa ba = true ∧ c = -1) ∨ ((al != bl) = false ∧ (aa == ba) = false ∧ Op.bytesLess aa ba = false ∧ c = 1) ∨
       ((al != bl) = false ∧ (aa == ba) = true ∧ decide (af < bf) = true ∧ c = -1) ∨ ((al != bl) = false ∧ (aa == ba) = true ∧ decide (af < bf) = false ∧ decide (bf < af) = true ∧ c = 1) ∨ ((al != bl) = false ∧ (aa == ba) = true ∧ decide (af < bf) = false ∧ decide (bf < af) = false ∧ c = 0)) := by
    generalize (al != bl) = p1
    generalize (aa == ba) = p2
    generalize decide (al < bl) = p3
    generalize Op.bytesLess aa ba = p4
    generalize decide (af < bf) = p5
    generalize decide (bf < af) = p6
    refine ⟨_, rfl, ?_⟩
    revert p1 p2 p3 p4 p5 p6
    decide
  obtain ⟨c, hc0, hw⟩ := hways
  rw [hc0]
  clear hc0
  rcases hw with ⟨q1, q2, hc⟩ | ⟨q1, q2, hc⟩ | ⟨q1, q2, q3, hc⟩ | ⟨q1, q2, q3, hc⟩ | ⟨q1, q2, q3, hc⟩ | ⟨q1, q2, q3, q4, hc⟩ | ⟨q1, q2, q3, q4, hc⟩
  all_goals
    have HC := Lib.hid hc
    clear hc
    go_enter Try.func57, Try.ntmps57
    go_wp2_with fail
    go_ret
    exact ⟨ret_int HC.out.symm, HB.out⟩

/-- The place of a file's table; -1: there is none. -/
def PlcT (l : List Tab) (f n : Int) : Prop := (∃ (i : Nat) (hi : i < l.length), n = (i : Int) ∧ l[i].file = f) ∨ (n = -1 ∧ ∀ t ∈ l, t.file ≠ f)

set_option maxRecDepth 100000 in
set_option maxHeartbeats 2000000 in
theorem place_any (w : World) (F : Nat → Prop) (v : Value) (l : List Tab) (f : Int) (h : TsM w F v l) (hl : l.length ≤ 1048576) :
    Calls Try.prog 39 #[v, .int .i64 f] w fun x w' => w' = w ∧ ∃ n : Int, x = .returned (.int .i64 n) ∧ PlcT l f n := by
  obtain ⟨p, cap, rfl, hlc, hl47, hcm, _⟩ := Cl.form h
  have HV := Lib.hid h
  clear h
  go_enter Try.func39, Try.ntmps39
  go_wp2_with fail
  go_loop [5] (fun iv => ∃ k : Nat, k ≤ l.length ∧ iv = .int .i64 (k : Int) ∧ ∀ t ∈ l.take k, t.file ≠ f) (fun iv => l.length - (intOf iv).toNat)
  case atStart => exact ⟨0, by omega, rfl, by simp⟩
  case round =>
    obtain ⟨k, hk, rfl, hno⟩ := hrel
    have HN := Lib.hid hno
    clear hno
    by_cases hlt : k < l.length
    · obtain ⟨b1, off1, rfl, hbl, e0, e1, e2, e3, e4⟩ := HV.out.at_ (List.getElem?_eq_getElem hlt)
      clear e1 e2 e3 e4
      cases hq : (l[k].file == f)
      · have HNx : Hid (∀ t ∈ l.take (k + 1), t.file ≠ f) := Lib.hid (fun t ht => by
          rw [take_snoc l k _ (List.getElem?_eq_getElem hlt)] at ht
          rcases List.mem_append.1 ht with h1 | h1
          · exact HN.out t h1
          · rw [List.mem_singleton.1 h1]; simpa using hq)
        go_wp2_with fail
        go_round
        case rel => exact ⟨k + 1, by omega, by go_num, HNx.out⟩
        case measure => simp [intOf]; omega
      · have HP : Hid (PlcT l f (k : Int)) := Lib.hid (.inl ⟨k, hlt, rfl, by simpa using hq⟩)
        go_wp2_with fail
        go_ret
        exact ⟨rfl, _, rfl, HP.out⟩
    · obtain rfl : k = l.length := by omega
      have HP : Hid (PlcT l f (-1)) := Lib.hid (.inr ⟨rfl, by have := HN.out; rwa [List.take_length] at this⟩)
      go_wp2_with fail
      go_ret
      exact ⟨rfl, _, rfl, HP.out⟩

theorem prt_ways : ∀ p1 p2 p3 p4 p5 p6 : Bool, (p1 && p2 && (p3 || p4) && (p5 || p6)) = false → p1 = false ∨ (p1 = true ∧ p2 = false) ∨ (p1 = true ∧ p2 = true ∧ p3 = false ∧ p4 = false) ∨ (p1 = true ∧ p2 = true ∧ p3 = true ∧ p5 = false ∧ p6 = false) ∨ (p1 = true ∧ p2 = true ∧ p3 = false ∧ p4 = true ∧ p5 = false ∧ p6 = false) := by
  intro p1 p2 p3 p4 p5 p6
  cases p1 <;> cases p2 <;> cases p3 <;> cases p4 <;> cases p5 <;> cases p6 <;> simp
/-- No two tables of a level from 1 on share a key. -/
def PrtT (l : List Tab) : Prop := ∀ (i k : Nat) (hi : i < l.length) (hk : k < i), (decide (1 ≤ l[i].level) && (l[i].level == (l[k]'(by omega)).level) && leY l[i].first (l[k]'(by omega)).last && leY (l[k]'(by omega)).first l[i].last) = false

set_option maxRecDepth 100000 in
set_option maxHeartbeats 4000000 in
theorem parted_any (w : World) (F : Nat → Prop) (v : Value) (l : List Tab) (h : TsM w F v l) (hl : l.length ≤ 1048576) (hp : PrtT l) :
    Calls Try.prog 41 #[v] w fun x w' => x = .returned (.bool true) ∧ Below w.heap.size w w' := by
  obtain ⟨p, cap, rfl, hlc, hl47, hcm, _⟩ := Cl.form h
  have HV := Lib.hid h
  have HP := Lib.hid hp
  clear h hp
  go_enter Try.func41, Try.ntmps41
  go_wp2_with fail
  go_loopw [3] (fun iv wr => ∃ k : Nat, k ≤ l.length ∧ iv = .int .i64 (k : Int) ∧ Hid (Below w.heap.size w wr)) (fun iv _ => l.length - (intOf iv).toNat)
  case atStart => exact ⟨0, by omega, rfl, Lib.hid (Below.refl _ _)⟩
  case round =>
    obtain ⟨i, hi, rfl, HB⟩ := hrel
    generalize wr = wz at *
    by_cases hlt : i < l.length
    · have d1 : decide ((i : Int) < (l.length : Int)) = true := decide_eq_true (by omega)
      go_wp2_with fail
      go_loopw [4] (fun iv wr => ∃ k : Nat, k ≤ i ∧ iv = .int .i64 (k : Int) ∧ Hid (Below w.heap.size w wr)) (fun iv _ => i - (intOf iv).toNat)
      case atStart => exact ⟨0, by omega, rfl, HB⟩
      case round =>
        obtain ⟨k, hk, rfl, HBy⟩ := hrel
        generalize wr = wy at *
        by_cases hki : k < i
        · have hpi := HP.out i k hlt hki
          obtain ⟨b1, off1, rfl, hbl, e0, e1, e2, e3, e4⟩ := (HV.out.below HBy.out).at_ (List.getElem?_eq_getElem hlt)
          obtain ⟨b2, off2, he, hbl2, g0, g1, g2, g3, g4⟩ := (HV.out.below HBy.out).at_ (List.getElem?_eq_getElem (show k < l.length by omega))
          obtain ⟨rfl, rfl⟩ : b1 = b2 ∧ off1 = off2 := by simpa using he
          generalize l[i] = x at *
          generalize l[k] = y at *
          obtain ⟨xf, xl, xa, xz, xs⟩ := x
          obtain ⟨yf, yl, ya, yz, ys⟩ := y
          dsimp only at e0 e1 e2 e3 e4 g0 g1 g2 g3 g4 hpi
          have d2 : decide ((k : Int) < (i : Int)) = true := decide_eq_true (by omega)
          have q0 : (0 : Int) ≤ (k : Int) := by omega
          have q1 : (k : Int) < (l.length : Int) := by omega
          unfold leY at hpi
          clear he e0 e4 g0 g4 d1
          obtain ⟨p1, r1⟩ : ∃ b, decide ((1 : Int) ≤ xl) = b := ⟨_, rfl⟩
          obtain ⟨p2, r2⟩ : ∃ b, (xl == yl) = b := ⟨_, rfl⟩
          obtain ⟨p3, r3⟩ : ∃ b, Op.bytesLess xa yz = b := ⟨_, rfl⟩
          obtain ⟨p4, r4⟩ : ∃ b, (xa == yz) = b := ⟨_, rfl⟩
          obtain ⟨p5, r5⟩ : ∃ b, Op.bytesLess ya xz = b := ⟨_, rfl⟩
          obtain ⟨p6, r6⟩ : ∃ b, (ya == xz) = b := ⟨_, rfl⟩
          rw [r1, r2, r3, r4, r5, r6] at hpi
          have hways := prt_ways p1 p2 p3 p4 p5 p6 hpi
          rcases hways with rfl | ⟨rfl, rfl⟩ | ⟨rfl, rfl, rfl, rfl⟩ | ⟨rfl, rfl, rfl, rfl, rfl⟩ | ⟨rfl, rfl, rfl, rfl, rfl, rfl⟩
          all_goals
            clear hpi
            go_upto_region 7 with (fail)
            go_quiet (fail)
            go_wp2_with fail
            go_roundw
            case rel => exact ⟨k + 1, by omega, by go_num, Lib.hid (below_drewN HBy.out _)⟩
            case measure => simp [intOf]; omega
        · obtain rfl : k = i := by omega
          have d2 : decide ((k : Int) < (k : Int)) = false := by simp
          go_wp2_with fail
          go_roundw
          case rel => exact ⟨k + 1, by omega, by go_num, HBy⟩
          case measure => simp [intOf]; omega
    · obtain rfl : i = l.length := by omega
      have d1 : decide ((l.length : Int) < (l.length : Int)) = false := by simp
      go_wp2_with fail
      go_ret
      exact ⟨rfl, HB.out⟩
end Go.Proofs.Yteclnnjijfbfoaa

/-
  The walk over glacierref8.dropped.
-/
namespace Go.Proofs.Yteclnnjijfbfoaa
open Go.RowKit

theorem cellsTs_take (l : List Tab) (k : Nat) (hk : k ≤ l.length) : (cellsTs l).take (k * 5) = cellsTs (l.take k) := by
  have h : cellsTs l = cellsTs (l.take k) ++ cellsTs (l.drop k) := by rw [← cellsTs_app, List.take_append_drop]
  rw [h, List.take_left' (by rw [cellsTs_len, List.length_take]; congr 1; omega)]
theorem cellsTs_drop (l : List Tab) (k : Nat) (hk : k ≤ l.length) : (cellsTs l).drop (k * 5) = cellsTs (l.drop k) := by
  have h : cellsTs l = cellsTs (l.take k) ++ cellsTs (l.drop k) := by rw [← cellsTs_app, List.take_append_drop]
  rw [h, List.drop_left' (by rw [cellsTs_len, List.length_take]; congr 1; omega)]
theorem cellsTs_one (l : List Tab) : ∀ x ∈ cellsTs l, x.oneCell' = true := fun x hx => by
  obtain ⟨m, hm, hx⟩ := List.mem_flatten.1 hx
  obtain ⟨t, _, rfl⟩ := List.mem_map.1 hm
  exact cT_one t x hx
theorem rest_nil (ts : List Tab) : restT ts [] = ts := by
  unfold restT isIn filesT
  simp
theorem erase_file : ∀ {l : List Tab}, (filesT l).Nodup → ∀ {i : Nat} (hi : i < l.length) {f : Int}, l[i].file = f → l.filter (fun t => !(t.file == f)) = l.take i ++ l.drop (i + 1)
  | [], _, i, hi, _, _ => by simp at hi
  | t :: r, hn, 0, hi, f, hf => by
    have h1 := List.nodup_cons.1 (show (t.file :: filesT r).Nodup from hn)
    have hf' : t.file = f := hf
    rw [List.filter_cons, if_neg (by simp [hf'])]
    simp only [List.take_zero, List.nil_append, Nat.zero_add, List.drop_succ_cons, List.drop_zero]
    rw [List.filter_eq_self]
    intro u hu
    have h2 : u.file ≠ f := fun e => h1.1 (by rw [hf', ← e]; exact List.mem_map_of_mem hu)
    simpa using h2
  | t :: r, hn, i + 1, hi, f, hf => by
    have h1 := List.nodup_cons.1 (show (t.file :: filesT r).Nodup from hn)
    have hi' : i < r.length := by simpa using hi
    have hf' : r[i].file = f := by simpa using hf
    have h2 : t.file ≠ f := fun e => h1.1 (by rw [e, ← hf']; exact List.mem_map_of_mem (List.getElem_mem hi'))
    rw [List.filter_cons, if_pos (by simpa using h2), erase_file h1.2 hi' hf']
    simp
theorem isIn_snoc (U : List Tab) (x t : Tab) : isIn (U ++ [x]) t = (isIn U t || (t.file == x.file)) := by
  rw [Bool.eq_iff_iff, Bool.or_eq_true, isIn_iff, isIn_iff]
  unfold filesT
  simp
theorem rest_snoc {ts U : List Tab} {k i : Nat} (hn : (filesT ts).Nodup) (hk : k < U.length) (hi : i < (restT ts (U.take k)).length) (hf : (restT ts (U.take k))[i].file = U[k].file) :
    restT ts (U.take (k + 1)) = (restT ts (U.take k)).take i ++ (restT ts (U.take k)).drop (i + 1) := by
  rw [← erase_file (hn.sublist ((rest_sub ts (U.take k)).map _)) hi hf]
  unfold restT
  rw [List.filter_filter, take_snoc U k _ (List.getElem?_eq_getElem hk)]
  refine List.filter_congr fun t _ => ?_
  rw [isIn_snoc]
  cases isIn (U.take k) t <;> simp
theorem rest_has {ts U : List Tab} {k : Nat} (hU : ∀ t ∈ U, t ∈ ts) (hUn : (filesT U).Nodup) (hk : k < U.length) : U[k] ∈ restT ts (U.take k) := by
  refine mem_restT.2 ⟨hU _ (List.getElem_mem hk), fun h => ?_⟩
  have h1 : U = U.take k ++ U[k] :: U.drop (k + 1) := by rw [← List.drop_eq_getElem_cons hk, List.take_append_drop]
  have h2 : (filesT (U.take k ++ U[k] :: U.drop (k + 1))).Nodup := by rw [← h1]; exact hUn
  unfold filesT at h2
  rw [List.map_append, List.nodup_append] at h2
  exact h2.2.2 _ h _ (List.mem_map_of_mem (.head _)) rfl
theorem rest_len (ts U : List Tab) : (restT ts U).length ≤ ts.length := (rest_sub ts U).length_le
theorem fileV_at (l : List Tab) (k : Nat) (hk : k < l.length) : (fileV l)[k]? = some (.int .i64 l[k].file) := by
  unfold fileV
  rw [List.getElem?_map, List.getElem?_eq_getElem hk]
  rfl

theorem row_base {w : World} {b b' : Nat} {e : TypeId} {s : Nat} {v : Value} {n : Nat} {xs : List Value} (h : w.ownsRow b e s v n xs) (hb : b' ≤ b) : w.ownsRow b' e s v n xs := by
  obtain ⟨h1, h2 | ⟨g, c, cur, e1, e2, h3⟩⟩ := h
  · exact ⟨h1, .inl h2⟩
  · exact ⟨h1, .inr ⟨g, c, cur, e1, Nat.le_trans hb e2, h3⟩⟩

set_option maxRecDepth 100000 in
set_option maxHeartbeats 4000000 in
theorem dropped_any (w : World) (F G : Nat → Prop) (tv dv : Value) (ts U : List Tab) (ht : TsM w F tv ts) (hd : Cl w G dv U.length (fileV U)) (hn : (filesT ts).Nodup) (hU : ∀ t ∈ U, t ∈ ts) (hUn : (filesT U).Nodup) (hl : ts.length ≤ 65536) (hlU : U.length ≤ 65536) :
    Calls Try.prog 38 #[tv, dv] w fun x w' => ∃ q c, x = .returned (.tuple #[.slice q (restT ts U).length c, .bool true]) ∧ w'.ownsRow w.heap.size 49 5 (.slice q (restT ts U).length c) (restT ts U).length (cellsTs (restT ts U)) ∧ Below w.heap.size w w' := by
  obtain ⟨p, cap, rfl, hlc, hl47, hcm, _⟩ := Cl.form ht
  obtain ⟨pd, capd, rfl, hdc, hd47, hcd, _⟩ := Cl.form hd
  have HT := Lib.hid ht
  have HD := Lib.hid hd
  have HN := Lib.hid (And.intro hn (And.intro hU hUn))
  have HR0 : Hid ((w.alloc (.cells #[] 49)).ownsRow w.heap.size 49 5 (.slice (some ⟨w.heap.size, 0, none⟩) 0 0) 0 []) := Lib.hid (World.ownsRow_lit (e := 49) (size := 5) w #[] 0 (Nat.le_refl _) (Nat.zero_le _) rfl)
  have HB0 : Hid (Below w.heap.size w (w.alloc (.cells #[] 49))) := Lib.hid (belowA _ _)
  have HT0 := Lib.hid (HT.out.below HB0.out)
  have HOne := Lib.hid (fun l => cellsTs_one l)
  have HLen := Lib.hid (fun l => cellsTs_len l)
  clear ht hd hn hU hUn
  go_enter Try.func38, Try.ntmps38
  go_wp2_with (at_builtin
               refine slTab.wpList_append rfl (.tmp 9) (.tmp 10) rfl w.heap.size (v := .slice (some ⟨w.heap.size, 0, none⟩) 0 0) (u := .slice p ts.length cap) rfl rfl HR0.out HT0.out (HLen.out ts) (HOne.out ts) (by omega) HB0.out.size ?_
               intro v3 w3 ho3 hg3 ha3
               have HB3 := Lib.hid (HB0.out.grown (by exact hg3) HB0.out.size (row_low HR0.out))
               obtain ⟨p3, c3, e3, _, _⟩ := row_shape ho3
               have e4 : v3 = .slice p3 ts.length c3 := by rw [e3, Nat.zero_add]
               subst e4
               have HO3 : Hid (w3.ownsRow w.heap.size 49 5 (.slice p3 ts.length c3) ts.length (cellsTs ts)) := Lib.hid (by have h := ho3; rwa [Nat.zero_add, List.nil_append] at h)
               clear ho3 hg3 ha3 e3)
  go_loopw [6, 7] (fun ov iv wr => ∃ (k : Nat) (q : Option Addr) (c : Nat), k ≤ U.length ∧ iv = .int .i64 (k : Int) ∧ ov = .slice q (restT ts (U.take k)).length c ∧ Hid (wr.ownsRow w.heap.size 49 5 (.slice q (restT ts (U.take k)).length c) (restT ts (U.take k)).length (cellsTs (restT ts (U.take k))) ∧ Below w.heap.size w wr)) (fun _ iv _ => U.length - (intOf iv).toNat)
  case atStart => exact ⟨0, p3, c3, by omega, rfl, by rw [List.take_zero, rest_nil], Lib.hid (by rw [List.take_zero, rest_nil]; exact ⟨HO3.out, HB3.out⟩)⟩
  case round =>
    obtain ⟨k, q, c, hk, rfl, rfl, HR⟩ := hrel
    generalize wr = wz at *
    by_cases hlt : k < U.length
    · have d1 : decide ((k : Int) < (U.length : Int)) = true := decide_eq_true (by omega)
      have hrl := rest_len ts (U.take k)
      have HHas := Lib.hid (rest_has HN.out.2.1 HN.out.2.2 hlt)
      have HSn := Lib.hid (fun (i : Nat) (hi : i < (restT ts (U.take k)).length) (hf : (restT ts (U.take k))[i].file = U[k].file) => rest_snoc HN.out.1 hlt hi hf)
      obtain ⟨bd, od, rfl, hbd, _, cd⟩ := Cl.at_ (HD.out.below HR.out.2) (fileV_at U k hlt)
      have HCl : Hid (TsM wz (fun k => k < wz.heap.size) (.slice q (restT ts (U.take k)).length c) (restT ts (U.take k))) := Lib.hid (Cl.of_own HR.out.1 (by omega) (fun j hj => row_lt HR.out.1 j hj) (cellsTs_len _))
      obtain ⟨uf, huf⟩ : ∃ f, U[k].file = f := ⟨_, rfl⟩
      have HHf : Hid (∃ t ∈ restT ts (U.take k), t.file = uf) := Lib.hid ⟨_, HHas.out, huf⟩
      rw [huf] at cd HSn
      clear huf HHas
      generalize hO : restT ts (U.take k) = O at *
      have HPl := Lib.hid (place_any wz _ _ O uf HCl.out (by omega))
      clear hO
      go_wp2_with fail
      refine HPl.out.mono ?_
      rintro x w5 ⟨rfl, n, rfl, hpl⟩
      obtain ⟨i, hi, rfl, hif⟩ : ∃ (i : Nat) (hi : i < O.length), n = (i : Int) ∧ O[i].file = uf := by
        rcases hpl with h1 | ⟨_, h1⟩
        · exact h1
        · obtain ⟨t, h2, h3⟩ := HHf.out
          exact absurd h3 (h1 t h2)
      have HSn2 := Lib.hid (HSn.out i hi hif)
      clear hif HPl HSn HHf hpl
      generalize w5 = wz at *
      have hbz : Below wz.heap.size wz ((wz.alloc (.cells #[] 49)).drew) := below_drew ((Below.refl _ _).alloc (Nat.le_refl _) _)
      obtain ⟨v1, hs1, hr1⟩ := slTab.take (HCl.out.below hbz) (cellsTs_len O) (k := i) (by omega)
      obtain ⟨v2, hs2, hr2⟩ := slTab.drop (HCl.out.below hbz) (cellsTs_len O) (k := i + 1) (by omega)
      rw [cellsTs_take O i (by omega)] at hs1
      rw [cellsTs_drop O (i + 1) (by omega)] at hs2
      have hwr : IntKind.i64.wrap ((i : Int) + 1) = ((i + 1 : Nat) : Int) := by rw [IntWalk.i64_in _ (by omega)]; omega
      have hr2w : ∀ W, (Instr.slice 42 (.slice q O.length c) (some (.int .i64 (IntKind.i64.wrap ((i : Int) + 1)))) none none).run Try.prog W = .ok v2 W := by rw [hwr]; exact hr2
      have HO0 : Hid (((wz.alloc (.cells #[] 49)).drew).ownsRow wz.heap.size 49 5 (.slice (some ⟨wz.heap.size, 0, none⟩) 0 0) 0 []) := Lib.hid (World.ownsRow_lit (e := 49) (size := 5) wz #[] 0 (Nat.le_refl _) (Nat.zero_le _) rfl).drew
      have HS1 := Lib.hid hs1
      have HS2 := Lib.hid hs2
      have HBz := Lib.hid hbz
      have hll1 : (O.take i).length = i := by rw [List.length_take]; omega
      have hll2 : (O.drop (i + 1)).length = O.length - (i + 1) := List.length_drop
      have HL1 : Hid ((cellsTs (O.take i)).length = i * 5) := Lib.hid (by rw [cellsTs_len, hll1])
      have HL2 : Hid ((cellsTs (O.drop (i + 1))).length = (O.length - (i + 1)) * 5) := Lib.hid (by rw [cellsTs_len, hll2])
      have HNew : Hid (restT ts (U.take (k + 1)) = O.take i ++ O.drop (i + 1)) := HSn2
      have HNl : Hid ((O.take i ++ O.drop (i + 1)).length = i + (O.length - (i + 1))) := Lib.hid (by rw [List.length_append, hll1, hll2])
      clear hs1 hs2 hr2 hwr hbz hll1 hll2 HSn2
      go_upto_region 8 with (fail)
      go_region_law (first
        | (refine slTab.step_append rfl (.tmp 26) (.tmp 29) rfl wz.heap.size (v := .slice (some ⟨wz.heap.size, 0, none⟩) 0 0) (u := v1) (by rfl) (by rfl) HO0.out HS1.out HL1.out (HOne.out _) (by omega) HBz.out.size ?_
           intro y1 w1 ho1 hg1 ha1
           have HB1 := Lib.hid (HBz.out.grown (by exact hg1) HBz.out.size (row_low HO0.out))
           have HO1 := Lib.hid ho1
           have HS2b := Lib.hid (HS2.out.step (Fr.grown hg1 (S := fun k => k = wz.heap.size) (fun k hk => (Option.some.inj hk).symm)) (fun k _ hk e => Nat.ne_of_lt hk e))
           clear ho1 hg1 ha1)
        | (refine slTab.step_append rfl (.tmp 30) (.tmp 34) rfl wz.heap.size (v := y1) (u := v2) (by rfl) (by rfl) HO1.out HS2b.out HL2.out (HOne.out _) (by omega) HB1.out.size ?_
           intro y2 w2 ho2 hg2 ha2
           have HB2 := Lib.hid (HB1.out.grown (by exact hg2) HB1.out.size (row_low HO1.out))
           obtain ⟨p4, c4, e4, _, _⟩ := row_shape ho2
           have e5 : y2 = .slice p4 (i + (O.length - (i + 1))) c4 := by rw [e4, Nat.zero_add]
           subst e5
           have HO2 : Hid (w2.ownsRow wz.heap.size 49 5 (.slice p4 (i + (O.length - (i + 1))) c4) (i + (O.length - (i + 1))) (cellsTs (O.take i ++ O.drop (i + 1)))) := Lib.hid (by have h := ho2; rwa [Nat.zero_add, List.nil_append, ← cellsTs_app] at h)
           clear ho2 hg2 ha2 e4))
      all_goals
        go_wp2_with fail
        go_roundw
        case rel => exact ⟨k + 1, p4, c4, by omega, by go_num, by rw [HNew.out, HNl.out], Lib.hid (by rw [HNew.out, HNl.out]; exact ⟨row_base HO2.out HR.out.2.size, HR.out.2.trans (HB2.out.mono HR.out.2.size)⟩)⟩
        case measure => simp [intOf]; omega
    · obtain rfl : k = U.length := by omega
      have d1 : decide ((U.length : Int) < (U.length : Int)) = false := by simp
      rw [List.take_length] at HR ⊢
      go_wp2_with fail
      refine Go.bodyPost_ret (Go.results_tmp2 rfl _ _ _) rfl ?_
      exact ⟨q, c, rfl, HR.out.1, HR.out.2⟩
end Go.Proofs.Yteclnnjijfbfoaa

/-
  The walk over glacierref8.added.
-/
namespace Go.Proofs.Yteclnnjijfbfoaa
open Go.RowKit

set_option maxRecDepth 100000 in
set_option maxHeartbeats 8000000 in
theorem added_any (w : World) (F : Nat → Prop) (tv : Value) (l : List Tab) (x : Tab) (h : TsM w F tv l) (hl : l.length ≤ 1048576) :
    Calls Try.prog 40 #[tv, .agg #[.int .i64 x.file, .int .i64 x.level, .string ⟨x.first.toArray⟩, .string ⟨x.last.toArray⟩, .int .i64 x.size]] w fun r w' => ∃ (i : Nat) (q : Option Addr) (c : Nat), i ≤ l.length ∧ r = .returned (.slice q (l.length + 1) c) ∧
      w'.ownsRow w.heap.size 49 5 (.slice q (l.length + 1) c) (l.length + 1) (cellsTs (l.take i ++ [x] ++ l.drop i)) ∧ Below w.heap.size w w' := by
  obtain ⟨p, cap, rfl, hlc, hl47, hcm, _⟩ := Cl.form h
  have HT := Lib.hid h
  have hz := heap_alloc_new w (.cells #[.int .i64 x.file, .int .i64 x.level, .string ⟨x.first.toArray⟩, .string ⟨x.last.toArray⟩, .int .i64 x.size] 49)
  have HCmp := Lib.hid (fun (V : World) (y : Tab) => tcmp_any V y x)
  have HOne := Lib.hid (fun l => cellsTs_one l)
  have HB0 : Hid (Below w.heap.size w (w.alloc (.cells #[.int .i64 x.file, .int .i64 x.level, .string ⟨x.first.toArray⟩, .string ⟨x.last.toArray⟩, .int .i64 x.size] 49))) := Lib.hid (belowA _ _)
  have hone1 := cT_one x
  have HcT := Lib.hid (show cT x = cellsTs [x] by simp [cellsTs])
  obtain ⟨xf, xl, xa, xz, xs⟩ := x
  dsimp only at hz HCmp HB0 HcT ⊢
  have HZ := Lib.hid hz
  have HcO := Lib.hid hone1
  clear h hz hone1
  go_enter Try.func40, Try.ntmps40
  go_wp2_with fail
  go_loopw [5] (fun iv wr => ∃ k : Nat, k ≤ l.length ∧ iv = .int .i64 (k : Int) ∧ Hid (Below w.heap.size w wr ∧ wr.heap[w.heap.size]? = some (.cells #[.int .i64 xf, .int .i64 xl, .string ⟨xa.toArray⟩, .string ⟨xz.toArray⟩, .int .i64 xs] 49 (0, 0)))) (fun iv _ => l.length - (intOf iv).toNat)
  case atStart => exact ⟨0, by omega, rfl, Lib.hid ⟨HB0.out, HZ.out⟩⟩
  case round =>
    obtain ⟨k, hk, rfl, HR⟩ := hrel
    generalize wr = wz at *
    have u0 := cell_of (i := 0) HR.out.2 rfl
    have u1 := cell_of (i := 1) HR.out.2 rfl
    have u2 := cell_of (i := 2) HR.out.2 rfl
    have u3 := cell_of (i := 3) HR.out.2 rfl
    have u4 := cell_of (i := 4) HR.out.2 rfl
    by_cases hgo : ∃ hlt : k < l.length, cmpT l[k] ⟨xf, xl, xa, xz, xs⟩ < 0
    · obtain ⟨hlt, hneg⟩ := hgo
      have d1 : decide ((k : Int) < (l.length : Int)) = true := decide_eq_true (by omega)
      obtain ⟨b1, off1, rfl, hbl, e0, e1, e2, e3, e4⟩ := (HT.out.below HR.out.1).at_ (List.getElem?_eq_getElem hlt)
      generalize l[k] = y at *
      have HC2 := Lib.hid (fun V => HCmp.out V y)
      obtain ⟨cv, hcv⟩ : ∃ c, cmpT y ⟨xf, xl, xa, xz, xs⟩ = c := ⟨_, rfl⟩
      rw [hcv] at HC2 hneg
      have d2 : decide (cv < 0) = true := decide_eq_true hneg
      have g0 := fun d os => cell_regrown e0 d os
      have g1 := fun d os => cell_regrown e1 d os
      have g2 := fun d os => cell_regrown e2 d os
      have g3 := fun d os => cell_regrown e3 d os
      have g4 := fun d os => cell_regrown e4 d os
      have v0 := fun d os => cell_regrown u0 d os
      have v1 := fun d os => cell_regrown u1 d os
      have v2 := fun d os => cell_regrown u2 d os
      have v3 := fun d os => cell_regrown u3 d os
      have v4 := fun d os => cell_regrown u4 d os
      clear e0 e1 e2 e3 e4 u0 u1 u2 u3 u4 hneg hcv
      go_upto_region 2 with (fail)
      refine wp_region_quiet_below (by kernel_rfl) (by kernel_rfl) ?_
      repeat (go_big_quiet_step (exact Calls.regrown_of (HC2.out _)))
      refine wpQuiet_nil ?_
      intro w8 hw8
      obtain ⟨⟨dq, osq⟩, hw9⟩ := hw8
      subst hw9
      have HBf : Hid (Below wz.heap.size wz (Go.Sort.grow (redrawn wz dq) osq)) := Lib.hid (below_regrown wz dq osq)
      clear g0 g1 g2 g3 g4 v0 v1 v2 v3 v4
      generalize Go.Sort.grow (redrawn wz dq) osq = wq at *
      go_wp2_with fail
      go_roundw
      case rel => exact ⟨k + 1, by omega, by go_num, Lib.hid ⟨HR.out.1.trans (HBf.out.mono HR.out.1.size), (HBf.out.block _ (block_lt HR.out.2)).trans HR.out.2⟩⟩
      case measure => simp [intOf]; omega
    · have hways : (k = l.length) ∨ (∃ hlt : k < l.length, ¬ cmpT l[k] ⟨xf, xl, xa, xz, xs⟩ < 0) := by
        by_cases hlt : k < l.length
        · exact .inr ⟨hlt, fun h => hgo ⟨hlt, h⟩⟩
        · exact .inl (by omega)
      clear hgo
      have hws : ∃ bl : Bool, decide ((k : Int) < (l.length : Int)) = bl := ⟨_, rfl⟩
      have HR2 := HR
      have v0 := fun d os => cell_regrown u0 d os
      have v1 := fun d os => cell_regrown u1 d os
      have v2 := fun d os => cell_regrown u2 d os
      have v3 := fun d os => cell_regrown u3 d os
      have v4 := fun d os => cell_regrown u4 d os
      clear u0 u1 u2 u3 u4
      have hcut : ∀ (Q : Prop), (k = l.length → Q) → (∀ hlt : k < l.length, ¬ cmpT l[k] ⟨xf, xl, xa, xz, xs⟩ < 0 → Q) → Q := fun Q h1 h2 => hways.elim h1 fun ⟨a, b⟩ => h2 a b
      go_upto_region 2 with (fail)
      refine hcut _ (fun hkl => ?_) (fun hlt hneg => ?_)
      · have d1 : decide ((k : Int) < (l.length : Int)) = false := decide_eq_false (by omega)
        have d1n : decide (k < l.length) = false := decide_eq_false (by omega)
        clear hcut hways hws hkl
        refine wp_region_quiet_below (by kernel_rfl) (by kernel_rfl) ?_
        repeat (go_big_quiet_step (fail))
        refine wpQuiet_nil ?_
        intro w8 hw8
        obtain ⟨⟨dq, osq⟩, hw9⟩ := hw8
        subst hw9
        have HBf : Hid (Below wz.heap.size wz (Go.Sort.grow (redrawn wz dq) osq)) := Lib.hid (below_regrown wz dq osq)
        clear v0 v1 v2 v3 v4 d1 d1n
        generalize Go.Sort.grow (redrawn wz dq) osq = wq at *
        have hq2 := (HBf.out.block _ (block_lt HR.out.2)).trans HR.out.2
        have hqb := HR.out.1.trans (HBf.out.mono HR.out.1.size)
        have hbe : w.heap.size < wq.heap.size := block_lt hq2
        have d0 := cell_of (i := 0) hq2 rfl
        have d1' := cell_of (i := 1) hq2 rfl
        have d2' := cell_of (i := 2) hq2 rfl
        have d3 := cell_of (i := 3) hq2 rfl
        have d4 := cell_of (i := 4) hq2 rfl
        have HTq := Lib.hid (HT.out.below hqb)
        have HQB := Lib.hid hqb
        obtain ⟨v1, hs1, hr1⟩ := slTab.take HTq.out (cellsTs_len l) (k := k) hk
        obtain ⟨v2, hs2, hr2⟩ := slTab.drop HTq.out (cellsTs_len l) (k := k) hk
        rw [cellsTs_take l k hk] at hs1
        rw [cellsTs_drop l k hk] at hs2
        have HS1 := Lib.hid hs1
        have HS2 := Lib.hid hs2
        have hll1 : (l.take k).length = k := by rw [List.length_take]; omega
        have hll2 : (l.drop k).length = l.length - k := List.length_drop
        have HL1 : Hid ((cellsTs (l.take k)).length = k * 5) := Lib.hid (by rw [cellsTs_len, hll1])
        have HL2 : Hid ((cellsTs (l.drop k)).length = (l.length - k) * 5) := Lib.hid (by rw [cellsTs_len, hll2])
        clear hs1 hs2 hll1 hll2 hqb hq2 HR2
        go_upto_region 4 with (fail)
        go_cut [6] (fun a wx => ∃ p6 c6, a = .slice p6 (k + 1) c6 ∧ Hid (wx.ownsRow wq.heap.size 49 5 (.slice p6 (k + 1) c6) (k + 1) (cellsTs (l.take k) ++ cT ⟨xf, xl, xa, xz, xs⟩) ∧ Below wq.heap.size wq wx))
        case first =>
          have hold : ∀ (Y : World) (o : Obj) (b off : Nat) (v : Value), b < Y.heap.size → Y.cell? ⟨b, off, none⟩ = some v → (Y.alloc o).cell? ⟨b, off, none⟩ = some v := fun Y o b off v hb hc => (World.cell?_of_block (alloc_old hb o)).trans hc
          have d0A := hold wq.drew (.cells #[] 49) w.heap.size 0 _ hbe d0
          have d1A := hold wq.drew (.cells #[] 49) w.heap.size 1 _ hbe d1'
          have d2A := hold wq.drew (.cells #[] 49) w.heap.size 2 _ hbe d2'
          have d3A := hold wq.drew (.cells #[] 49) w.heap.size 3 _ hbe d3
          have d4A := hold wq.drew (.cells #[] 49) w.heap.size 4 _ hbe d4
          have hbA : Below wq.heap.size wq (wq.drew.alloc (.cells #[] 49)) := (below_drew (Below.refl _ _)).alloc (Nat.le_refl _) _
          have hbB : Below wq.heap.size wq (wq.drew.alloc (.cells #[.int .i64 xf, .int .i64 xl, .string ⟨xa.toArray⟩, .string ⟨xz.toArray⟩, .int .i64 xs] 49)) := (below_drew (Below.refl _ _)).alloc (Nat.le_refl _) _
          have hbAB : Below wq.heap.size wq ((wq.drew.alloc (.cells #[] 49)).alloc (.cells #[.int .i64 xf, .int .i64 xl, .string ⟨xa.toArray⟩, .string ⟨xz.toArray⟩, .int .i64 xs] 49)) := hbA.alloc hbA.size _
          have hbBA : Below wq.heap.size wq ((wq.drew.alloc (.cells #[.int .i64 xf, .int .i64 xl, .string ⟨xa.toArray⟩, .string ⟨xz.toArray⟩, .int .i64 xs] 49)).alloc (.cells #[] 49)) := hbB.alloc hbB.size _
          have rA : (wq.drew.alloc (.cells #[] 49)).ownsRow wq.heap.size 49 5 (.slice (some ⟨wq.heap.size, 0, none⟩) 0 0) 0 [] := World.ownsRow_lit (e := 49) (size := 5) wq.drew #[] 0 (Nat.le_refl _) (Nat.zero_le _) rfl
          have HA : Hid ((wq.drew.alloc (.cells #[] 49)).ownsRow wq.heap.size 49 5 (.slice (some ⟨wq.heap.size, 0, none⟩) 0 0) 0 [] ∧ Cl (wq.drew.alloc (.cells #[] 49)) F v1 k (cellsTs (l.take k)) ∧ Below wq.heap.size wq (wq.drew.alloc (.cells #[] 49))) := Lib.hid ⟨rA, HS1.out.below hbA, hbA⟩
          have HAB : Hid (((wq.drew.alloc (.cells #[] 49)).alloc (.cells #[.int .i64 xf, .int .i64 xl, .string ⟨xa.toArray⟩, .string ⟨xz.toArray⟩, .int .i64 xs] 49)).ownsRow wq.heap.size 49 5 (.slice (some ⟨wq.heap.size, 0, none⟩) 0 0) 0 [] ∧ Cl ((wq.drew.alloc (.cells #[] 49)).alloc (.cells #[.int .i64 xf, .int .i64 xl, .string ⟨xa.toArray⟩, .string ⟨xz.toArray⟩, .int .i64 xs] 49)) F v1 k (cellsTs (l.take k)) ∧ Below wq.heap.size wq ((wq.drew.alloc (.cells #[] 49)).alloc (.cells #[.int .i64 xf, .int .i64 xl, .string ⟨xa.toArray⟩, .string ⟨xz.toArray⟩, .int .i64 xs] 49))) := Lib.hid ⟨row_keep rA (fun k hk => by obtain rfl := Option.some.inj hk; exact alloc_old (by simp) _), HS1.out.below hbAB, hbAB⟩
          have HBA : Hid (((wq.drew.alloc (.cells #[.int .i64 xf, .int .i64 xl, .string ⟨xa.toArray⟩, .string ⟨xz.toArray⟩, .int .i64 xs] 49)).alloc (.cells #[] 49)).ownsRow wq.heap.size 49 5 (.slice (some ⟨wq.heap.size + 1, 0, none⟩) 0 0) 0 [] ∧ Cl ((wq.drew.alloc (.cells #[.int .i64 xf, .int .i64 xl, .string ⟨xa.toArray⟩, .string ⟨xz.toArray⟩, .int .i64 xs] 49)).alloc (.cells #[] 49)) F v1 k (cellsTs (l.take k)) ∧ Below wq.heap.size wq ((wq.drew.alloc (.cells #[.int .i64 xf, .int .i64 xl, .string ⟨xa.toArray⟩, .string ⟨xz.toArray⟩, .int .i64 xs] 49)).alloc (.cells #[] 49))) := by
            have h1 := World.ownsRow_lit (e := 49) (size := 5) (wq.drew.alloc (.cells #[.int .i64 xf, .int .i64 xl, .string ⟨xa.toArray⟩, .string ⟨xz.toArray⟩, .int .i64 xs] 49)) #[] 0 hbB.size (Nat.zero_le _) rfl
            rw [show (wq.drew.alloc (.cells #[.int .i64 xf, .int .i64 xl, .string ⟨xa.toArray⟩, .string ⟨xz.toArray⟩, .int .i64 xs] 49)).heap.size = wq.heap.size + 1 by simp] at h1
            exact Lib.hid ⟨h1, HS1.out.below hbBA, hbBA⟩
          have HSfAB : Hid (Cl ((wq.drew.alloc (.cells #[] 49)).alloc (.cells #[.int .i64 xf, .int .i64 xl, .string ⟨xa.toArray⟩, .string ⟨xz.toArray⟩, .int .i64 xs] 49)) (fun k => k = wq.heap.size + 1) (.slice (some ⟨wq.heap.size + 1, 0, none⟩) 1 1) 1 (cT ⟨xf, xl, xa, xz, xs⟩)) := by
            have h1 := Cl.new (wq.drew.alloc (.cells #[] 49)) (fun k => k = wq.heap.size + 1) 1 (cT ⟨xf, xl, xa, xz, xs⟩) #[.int .i64 xf, .int .i64 xl, .string ⟨xa.toArray⟩, .string ⟨xz.toArray⟩, .int .i64 xs] 49 rfl (by omega) (by simp)
            rw [show (wq.drew.alloc (.cells #[] 49)).heap.size = wq.heap.size + 1 by simp] at h1
            exact Lib.hid h1
          have HSfBA : Hid (Cl ((wq.drew.alloc (.cells #[.int .i64 xf, .int .i64 xl, .string ⟨xa.toArray⟩, .string ⟨xz.toArray⟩, .int .i64 xs] 49)).alloc (.cells #[] 49)) (fun k => k = wq.heap.size) (.slice (some ⟨wq.heap.size, 0, none⟩) 1 1) 1 (cT ⟨xf, xl, xa, xz, xs⟩)) := Lib.hid ((Cl.new wq.drew (fun k => k = wq.heap.size) 1 (cT ⟨xf, xl, xa, xz, xs⟩) #[.int .i64 xf, .int .i64 xl, .string ⟨xa.toArray⟩, .string ⟨xz.toArray⟩, .int .i64 xs] 49 rfl (by omega) rfl).step (Fr.of_new ((Below.refl _ _).alloc (Nat.le_refl _) _) (fun _ => False)) (fun _ _ _ hf => hf))
          clear hbA hbB hbAB hbBA hold rA
          go_region_law (first
            | (refine slTab.step_append rfl (.tmp 22) (.tmp 25) rfl wq.heap.size (v := .slice (some ⟨wq.heap.size, 0, none⟩) 0 0) (u := v1) (by rfl) (by rfl) HA.out.1 HA.out.2.1 HL1.out (HOne.out _) (by omega) HA.out.2.2.size ?_
               intro y1 w1 ho1 hg1 ha1
               have hb1 : Below wq.heap.size wq w1 := HA.out.2.2.grown (by exact hg1) HA.out.2.2.size (row_low HA.out.1)
               have hlow1 := row_low ho1
               have e0 : w1.heap[w.heap.size]? = (wq.drew.alloc (.cells #[] 49)).heap[w.heap.size]? := hg1.block w.heap.size (by simp; omega) (fun e => absurd (Option.some.inj e) (Nat.ne_of_lt hbe))
               have d0C := (World.cell?_of_block e0).trans d0A
               have d1C := (World.cell?_of_block e0).trans d1A
               have d2C := (World.cell?_of_block e0).trans d2A
               have d3C := (World.cell?_of_block e0).trans d3A
               have d4C := (World.cell?_of_block e0).trans d4A
               have HO2 : Hid ((w1.alloc (.cells #[.int .i64 xf, .int .i64 xl, .string ⟨xa.toArray⟩, .string ⟨xz.toArray⟩, .int .i64 xs] 49)).ownsRow wq.heap.size 49 5 y1 (0 + k) ([] ++ cellsTs (l.take k))) := Lib.hid (row_keep ho1 fun k hk => alloc_old (row_lt ho1 k hk) _)
               have HSf2 : Hid (Cl (w1.alloc (.cells #[.int .i64 xf, .int .i64 xl, .string ⟨xa.toArray⟩, .string ⟨xz.toArray⟩, .int .i64 xs] 49)) (fun k => k = w1.heap.size) (.slice (some ⟨w1.heap.size, 0, none⟩) 1 1) 1 (cT ⟨xf, xl, xa, xz, xs⟩)) := Lib.hid (Cl.new w1 (fun k => k = w1.heap.size) 1 (cT ⟨xf, xl, xa, xz, xs⟩) #[.int .i64 xf, .int .i64 xl, .string ⟨xa.toArray⟩, .string ⟨xz.toArray⟩, .int .i64 xs] 49 rfl (by omega) rfl)
               have HB2 : Hid (Below wq.heap.size wq (w1.alloc (.cells #[.int .i64 xf, .int .i64 xl, .string ⟨xa.toArray⟩, .string ⟨xz.toArray⟩, .int .i64 xs] 49))) := Lib.hid (hb1.alloc hb1.size _)
               clear e0 hlow1
               clear ho1 hg1 ha1 hb1)
            | (refine slTab.step_append rfl (.tmp 22) (.tmp 25) rfl wq.heap.size (v := .slice (some ⟨wq.heap.size, 0, none⟩) 0 0) (u := v1) (by rfl) (by rfl) HAB.out.1 HAB.out.2.1 HL1.out (HOne.out _) (by omega) HAB.out.2.2.size ?_
               intro y1 w1 ho1 hg1 ha1
               have hb1 : Below wq.heap.size wq w1 := HAB.out.2.2.grown (by exact hg1) HAB.out.2.2.size (row_low HAB.out.1)
               have HO2 : Hid (w1.ownsRow wq.heap.size 49 5 y1 (0 + k) ([] ++ cellsTs (l.take k))) := Lib.hid ho1
               have HSf2 : Hid (Cl w1 (fun k => k = wq.heap.size + 1) (.slice (some ⟨wq.heap.size + 1, 0, none⟩) 1 1) 1 (cT ⟨xf, xl, xa, xz, xs⟩)) := Lib.hid (HSfAB.out.step (Fr.grown hg1 (S := fun k => k = wq.heap.size) (fun k hk => (Option.some.inj hk).symm)) (fun k _ hk e => by omega))
               have HB2 : Hid (Below wq.heap.size wq w1) := Lib.hid hb1
               clear ho1 hg1 ha1 hb1)
            | (refine slTab.step_append rfl (.tmp 22) (.tmp 25) rfl wq.heap.size (v := .slice (some ⟨wq.heap.size + 1, 0, none⟩) 0 0) (u := v1) (by rfl) (by rfl) HBA.out.1 HBA.out.2.1 HL1.out (HOne.out _) (by omega) HBA.out.2.2.size ?_
               intro y1 w1 ho1 hg1 ha1
               have hb1 : Below wq.heap.size wq w1 := HBA.out.2.2.grown (by exact hg1) HBA.out.2.2.size (row_low HBA.out.1)
               have HO2 : Hid (w1.ownsRow wq.heap.size 49 5 y1 (0 + k) ([] ++ cellsTs (l.take k))) := Lib.hid ho1
               have HSf2 : Hid (Cl w1 (fun k => k = wq.heap.size) (.slice (some ⟨wq.heap.size, 0, none⟩) 1 1) 1 (cT ⟨xf, xl, xa, xz, xs⟩)) := Lib.hid (HSfBA.out.step (Fr.grown hg1 (S := fun k => k = wq.heap.size + 1) (fun k hk => (Option.some.inj hk).symm)) (fun k _ hk e => by omega))
               have HB2 : Hid (Below wq.heap.size wq w1) := Lib.hid hb1
               clear ho1 hg1 ha1 hb1)
            | (refine slTab.step_append rfl (.tmp 26) (.tmp 28) rfl wq.heap.size (v := y1) (by rfl) (by rfl) HO2.out HSf2.out rfl HcO.out (by omega) HB2.out.size ?_
               intro y2 w2 ho2 hg2 ha2
               obtain ⟨p6, c6, e6, _, _⟩ := row_shape ho2
               have e7 : y2 = .slice p6 (k + 1) c6 := by rw [e6, Nat.zero_add]
               subst e7
               have HO3 : Hid (w2.ownsRow wq.heap.size 49 5 (.slice p6 (k + 1) c6) (k + 1) (cellsTs (l.take k) ++ cT ⟨xf, xl, xa, xz, xs⟩)) := Lib.hid (by
                 have h1 := ho2
                 rw [Nat.zero_add, List.nil_append] at h1
                 exact h1)
               have HB3 : Hid (Below wq.heap.size wq w2) := Lib.hid (HB2.out.grown (by exact hg2) HB2.out.size (row_low HO2.out))
               clear ho2 hg2 ha2 e6))
          all_goals
            go_wp2_with fail
            go_meet
            exact ⟨p6, c6, rfl, Lib.hid ⟨HO3.out, HB3.out⟩⟩
        case rest =>
          obtain ⟨p6, c6, rfl, HR6⟩ := hcut
          obtain ⟨wf, rfl⟩ : ∃ wf : World, wf = wc := ⟨_, rfl⟩
          have HS2f := Lib.hid (HS2.out.below HR6.out.2)
          have HQs := HQB.out.size
          go_wp2_with (at_builtin
                       refine slTab.wpList_append rfl (.tmp 30) (.tmp 33) rfl wq.heap.size (v := .slice p6 (k + 1) c6) (u := v2) rfl rfl HR6.out.1 HS2f.out HL2.out (HOne.out _) (by omega) HR6.out.2.size ?_
                       intro v9 w9 ho9 hg9 ha9
                       have HB9 := Lib.hid (HR6.out.2.grown (by exact hg9) HR6.out.2.size (row_low HR6.out.1))
                       obtain ⟨p9, c9, e9, _, _⟩ := row_shape ho9
                       have e8 : v9 = .slice p9 (l.length + 1) c9 := by rw [e9]; congr 1; omega
                       subst e8
                       have HO9 := Lib.hid ho9
                       clear ho9 hg9 ha9 e9)
          go_ret
          refine ⟨k, p9, c9, hk, rfl, ?_, HQB.out.trans (HB9.out.mono HQs)⟩
          have h9 := row_base HO9.out HQs
          rw [show k + 1 + (l.length - k) = l.length + 1 by omega, HcT.out, ← cellsTs_app, ← cellsTs_app] at h9
          exact h9
      · have d1 : decide ((k : Int) < (l.length : Int)) = true := decide_eq_true (by omega)
        obtain ⟨b1, off1, rfl, hbl, e0, e1, e2, e3, e4⟩ := (HT.out.below HR.out.1).at_ (List.getElem?_eq_getElem hlt)
        have HC2 := Lib.hid (fun V => HCmp.out V l[k])
        have hxk : ∃ y, l[k] = y := ⟨_, rfl⟩
        obtain ⟨y, hy⟩ := hxk
        rw [hy] at e0 e1 e2 e3 e4 HC2 hneg
        obtain ⟨cv, hcv⟩ : ∃ c, cmpT y ⟨xf, xl, xa, xz, xs⟩ = c := ⟨_, rfl⟩
        rw [hcv] at HC2 hneg
        have d2 : decide (cv < 0) = false := decide_eq_false hneg
        have g0 := fun d os => cell_regrown e0 d os
        have g1 := fun d os => cell_regrown e1 d os
        have g2 := fun d os => cell_regrown e2 d os
        have g3 := fun d os => cell_regrown e3 d os
        have g4 := fun d os => cell_regrown e4 d os
        clear e0 e1 e2 e3 e4 hneg hcv hcut hways hws hy
        refine wp_region_quiet_below (by kernel_rfl) (by kernel_rfl) ?_
        repeat (go_big_quiet_step (exact Calls.regrown_of (HC2.out _)))
        refine wpQuiet_nil ?_
        intro w8 hw8
        obtain ⟨⟨dq, osq⟩, hw9⟩ := hw8
        subst hw9
        have HBf : Hid (Below wz.heap.size wz (Go.Sort.grow (redrawn wz dq) osq)) := Lib.hid (below_regrown wz dq osq)
        clear g0 g1 g2 g3 g4 v0 v1 v2 v3 v4 d1 d2
        generalize Go.Sort.grow (redrawn wz dq) osq = wq at *
        have hq2 := (HBf.out.block _ (block_lt HR.out.2)).trans HR.out.2
        have hqb := HR.out.1.trans (HBf.out.mono HR.out.1.size)
        have hbe : w.heap.size < wq.heap.size := block_lt hq2
        have d0 := cell_of (i := 0) hq2 rfl
        have d1' := cell_of (i := 1) hq2 rfl
        have d2' := cell_of (i := 2) hq2 rfl
        have d3 := cell_of (i := 3) hq2 rfl
        have d4 := cell_of (i := 4) hq2 rfl
        have HTq := Lib.hid (HT.out.below hqb)
        have HQB := Lib.hid hqb
        obtain ⟨v1, hs1, hr1⟩ := slTab.take HTq.out (cellsTs_len l) (k := k) hk
        obtain ⟨v2, hs2, hr2⟩ := slTab.drop HTq.out (cellsTs_len l) (k := k) hk
        rw [cellsTs_take l k hk] at hs1
        rw [cellsTs_drop l k hk] at hs2
        have HS1 := Lib.hid hs1
        have HS2 := Lib.hid hs2
        have hll1 : (l.take k).length = k := by rw [List.length_take]; omega
        have hll2 : (l.drop k).length = l.length - k := List.length_drop
        have HL1 : Hid ((cellsTs (l.take k)).length = k * 5) := Lib.hid (by rw [cellsTs_len, hll1])
        have HL2 : Hid ((cellsTs (l.drop k)).length = (l.length - k) * 5) := Lib.hid (by rw [cellsTs_len, hll2])
        clear hs1 hs2 hll1 hll2 hqb hq2 HR2
        go_upto_region 4 with (fail)
        go_cut [6] (fun a wx => ∃ p6 c6, a = .slice p6 (k + 1) c6 ∧ Hid (wx.ownsRow wq.heap.size 49 5 (.slice p6 (k + 1) c6) (k + 1) (cellsTs (l.take k) ++ cT ⟨xf, xl, xa, xz, xs⟩) ∧ Below wq.heap.size wq wx))
        case first =>
          have hold : ∀ (Y : World) (o : Obj) (b off : Nat) (v : Value), b < Y.heap.size → Y.cell? ⟨b, off, none⟩ = some v → (Y.alloc o).cell? ⟨b, off, none⟩ = some v := fun Y o b off v hb hc => (World.cell?_of_block (alloc_old hb o)).trans hc
          have d0A := hold wq.drew (.cells #[] 49) w.heap.size 0 _ hbe d0
          have d1A := hold wq.drew (.cells #[] 49) w.heap.size 1 _ hbe d1'
          have d2A := hold wq.drew (.cells #[] 49) w.heap.size 2 _ hbe d2'
          have d3A := hold wq.drew (.cells #[] 49) w.heap.size 3 _ hbe d3
          have d4A := hold wq.drew (.cells #[] 49) w.heap.size 4 _ hbe d4
          have hbA : Below wq.heap.size wq (wq.drew.alloc (.cells #[] 49)) := (below_drew (Below.refl _ _)).alloc (Nat.le_refl _) _
          have hbB : Below wq.heap.size wq (wq.drew.alloc (.cells #[.int .i64 xf, .int .i64 xl, .string ⟨xa.toArray⟩, .string ⟨xz.toArray⟩, .int .i64 xs] 49)) := (below_drew (Below.refl _ _)).alloc (Nat.le_refl _) _
          have hbAB : Below wq.heap.size wq ((wq.drew.alloc (.cells #[] 49)).alloc (.cells #[.int .i64 xf, .int .i64 xl, .string ⟨xa.toArray⟩, .string ⟨xz.toArray⟩, .int .i64 xs] 49)) := hbA.alloc hbA.size _
          have hbBA : Below wq.heap.size wq ((wq.drew.alloc (.cells #[.int .i64 xf, .int .i64 xl, .string ⟨xa.toArray⟩, .string ⟨xz.toArray⟩, .int .i64 xs] 49)).alloc (.cells #[] 49)) := hbB.alloc hbB.size _
          have rA : (wq.drew.alloc (.cells #[] 49)).ownsRow wq.heap.size 49 5 (.slice (some ⟨wq.heap.size, 0, none⟩) 0 0) 0 [] := World.ownsRow_lit (e := 49) (size := 5) wq.drew #[] 0 (Nat.le_refl _) (Nat.zero_le _) rfl
          have HA : Hid ((wq.drew.alloc (.cells #[] 49)).ownsRow wq.heap.size 49 5 (.slice (some ⟨wq.heap.size, 0, none⟩) 0 0) 0 [] ∧ Cl (wq.drew.alloc (.cells #[] 49)) F v1 k (cellsTs (l.take k)) ∧ Below wq.heap.size wq (wq.drew.alloc (.cells #[] 49))) := Lib.hid ⟨rA, HS1.out.below hbA, hbA⟩
          have HAB : Hid (((wq.drew.alloc (.cells #[] 49)).alloc (.cells #[.int .i64 xf, .int .i64 xl, .string ⟨xa.toArray⟩, .string ⟨xz.toArray⟩, .int .i64 xs] 49)).ownsRow wq.heap.size 49 5 (.slice (some ⟨wq.heap.size, 0, none⟩) 0 0) 0 [] ∧ Cl ((wq.drew.alloc (.cells #[] 49)).alloc (.cells #[.int .i64 xf, .int .i64 xl, .string ⟨xa.toArray⟩, .string ⟨xz.toArray⟩, .int .i64 xs] 49)) F v1 k (cellsTs (l.take k)) ∧ Below wq.heap.size wq ((wq.drew.alloc (.cells #[] 49)).alloc (.cells #[.int .i64 xf, .int .i64 xl, .string ⟨xa.toArray⟩, .string ⟨xz.toArray⟩, .int .i64 xs] 49))) := Lib.hid ⟨row_keep rA (fun k hk => by obtain rfl := Option.some.inj hk; exact alloc_old (by simp) _), HS1.out.below hbAB, hbAB⟩
          have HBA : Hid (((wq.drew.alloc (.cells #[.int .i64 xf, .int .i64 xl, .string ⟨xa.toArray⟩, .string ⟨xz.toArray⟩, .int .i64 xs] 49)).alloc (.cells #[] 49)).ownsRow wq.heap.size 49 5 (.slice (some ⟨wq.heap.size + 1, 0, none⟩) 0 0) 0 [] ∧ Cl ((wq.drew.alloc (.cells #[.int .i64 xf, .int .i64 xl, .string ⟨xa.toArray⟩, .string ⟨xz.toArray⟩, .int .i64 xs] 49)).alloc (.cells #[] 49)) F v1 k (cellsTs (l.take k)) ∧ Below wq.heap.size wq ((wq.drew.alloc (.cells #[.int .i64 xf, .int .i64 xl, .string ⟨xa.toArray⟩, .string ⟨xz.toArray⟩, .int .i64 xs] 49)).alloc (.cells #[] 49))) := by
            have h1 := World.ownsRow_lit (e := 49) (size := 5) (wq.drew.alloc (.cells #[.int .i64 xf, .int .i64 xl, .string ⟨xa.toArray⟩, .string ⟨xz.toArray⟩, .int .i64 xs] 49)) #[] 0 hbB.size (Nat.zero_le _) rfl
            rw [show (wq.drew.alloc (.cells #[.int .i64 xf, .int .i64 xl, .string ⟨xa.toArray⟩, .string ⟨xz.toArray⟩, .int .i64 xs] 49)).heap.size = wq.heap.size + 1 by simp] at h1
            exact Lib.hid ⟨h1, HS1.out.below hbBA, hbBA⟩
          have HSfAB : Hid (Cl ((wq.drew.alloc (.cells #[] 49)).alloc (.cells #[.int .i64 xf, .int .i64 xl, .string ⟨xa.toArray⟩, .string ⟨xz.toArray⟩, .int .i64 xs] 49)) (fun k => k = wq.heap.size + 1) (.slice (some ⟨wq.heap.size + 1, 0, none⟩) 1 1) 1 (cT ⟨xf, xl, xa, xz, xs⟩)) := by
            have h1 := Cl.new (wq.drew.alloc (.cells #[] 49)) (fun k => k = wq.heap.size + 1) 1 (cT ⟨xf, xl, xa, xz, xs⟩) #[.int .i64 xf, .int .i64 xl, .string ⟨xa.toArray⟩, .string ⟨xz.toArray⟩, .int .i64 xs] 49 rfl (by omega) (by simp)
            rw [show (wq.drew.alloc (.cells #[] 49)).heap.size = wq.heap.size + 1 by simp] at h1
            exact Lib.hid h1
          have HSfBA : Hid (Cl ((wq.drew.alloc (.cells #[.int .i64 xf, .int .i64 xl, .string ⟨xa.toArray⟩, .string ⟨xz.toArray⟩, .int .i64 xs] 49)).alloc (.cells #[] 49)) (fun k => k = wq.heap.size) (.slice (some ⟨wq.heap.size, 0, none⟩) 1 1) 1 (cT ⟨xf, xl, xa, xz, xs⟩)) := Lib.hid ((Cl.new wq.drew (fun k => k = wq.heap.size) 1 (cT ⟨xf, xl, xa, xz, xs⟩) #[.int .i64 xf, .int .i64 xl, .string ⟨xa.toArray⟩, .string ⟨xz.toArray⟩, .int .i64 xs] 49 rfl (by omega) rfl).step (Fr.of_new ((Below.refl _ _).alloc (Nat.le_refl _) _) (fun _ => False)) (fun _ _ _ hf => hf))
          clear hbA hbB hbAB hbBA hold rA
          go_region_law (first
            | (refine slTab.step_append rfl (.tmp 22) (.tmp 25) rfl wq.heap.size (v := .slice (some ⟨wq.heap.size, 0, none⟩) 0 0) (u := v1) (by rfl) (by rfl) HA.out.1 HA.out.2.1 HL1.out (HOne.out _) (by omega) HA.out.2.2.size ?_
               intro y1 w1 ho1 hg1 ha1
               have hb1 : Below wq.heap.size wq w1 := HA.out.2.2.grown (by exact hg1) HA.out.2.2.size (row_low HA.out.1)
               have hlow1 := row_low ho1
               have e0 : w1.heap[w.heap.size]? = (wq.drew.alloc (.cells #[] 49)).heap[w.heap.size]? := hg1.block w.heap.size (by simp; omega) (fun e => absurd (Option.some.inj e) (Nat.ne_of_lt hbe))
               have d0C := (World.cell?_of_block e0).trans d0A
               have d1C := (World.cell?_of_block e0).trans d1A
               have d2C := (World.cell?_of_block e0).trans d2A
               have d3C := (World.cell?_of_block e0).trans d3A
               have d4C := (World.cell?_of_block e0).trans d4A
               have HO2 : Hid ((w1.alloc (.cells #[.int .i64 xf, .int .i64 xl, .string ⟨xa.toArray⟩, .string ⟨xz.toArray⟩, .int .i64 xs] 49)).ownsRow wq.heap.size 49 5 y1 (0 + k) ([] ++ cellsTs (l.take k))) := Lib.hid (row_keep ho1 fun k hk => alloc_old (row_lt ho1 k hk) _)
               have HSf2 : Hid (Cl (w1.alloc (.cells #[.int .i64 xf, .int .i64 xl, .string ⟨xa.toArray⟩, .string ⟨xz.toArray⟩, .int .i64 xs] 49)) (fun k => k = w1.heap.size) (.slice (some ⟨w1.heap.size, 0, none⟩) 1 1) 1 (cT ⟨xf, xl, xa, xz, xs⟩)) := Lib.hid (Cl.new w1 (fun k => k = w1.heap.size) 1 (cT ⟨xf, xl, xa, xz, xs⟩) #[.int .i64 xf, .int .i64 xl, .string ⟨xa.toArray⟩, .string ⟨xz.toArray⟩, .int .i64 xs] 49 rfl (by omega) rfl)
               have HB2 : Hid (Below wq.heap.size wq (w1.alloc (.cells #[.int .i64 xf, .int .i64 xl, .string ⟨xa.toArray⟩, .string ⟨xz.toArray⟩, .int .i64 xs] 49))) := Lib.hid (hb1.alloc hb1.size _)
               clear e0 hlow1
               clear ho1 hg1 ha1 hb1)
            | (refine slTab.step_append rfl (.tmp 22) (.tmp 25) rfl wq.heap.size (v := .slice (some ⟨wq.heap.size, 0, none⟩) 0 0) (u := v1) (by rfl) (by rfl) HAB.out.1 HAB.out.2.1 HL1.out (HOne.out _) (by omega) HAB.out.2.2.size ?_
               intro y1 w1 ho1 hg1 ha1
               have hb1 : Below wq.heap.size wq w1 := HAB.out.2.2.grown (by exact hg1) HAB.out.2.2.size (row_low HAB.out.1)
               have HO2 : Hid (w1.ownsRow wq.heap.size 49 5 y1 (0 + k) ([] ++ cellsTs (l.take k))) := Lib.hid ho1
               have HSf2 : Hid (Cl w1 (fun k => k = wq.heap.size + 1) (.slice (some ⟨wq.heap.size + 1, 0, none⟩) 1 1) 1 (cT ⟨xf, xl, xa, xz, xs⟩)) := Lib.hid (HSfAB.out.step (Fr.grown hg1 (S := fun k => k = wq.heap.size) (fun k hk => (Option.some.inj hk).symm)) (fun k _ hk e => by omega))
               have HB2 : Hid (Below wq.heap.size wq w1) := Lib.hid hb1
               clear ho1 hg1 ha1 hb1)
            | (refine slTab.step_append rfl (.tmp 22) (.tmp 25) rfl wq.heap.size (v := .slice (some ⟨wq.heap.size + 1, 0, none⟩) 0 0) (u := v1) (by rfl) (by rfl) HBA.out.1 HBA.out.2.1 HL1.out (HOne.out _) (by omega) HBA.out.2.2.size ?_
               intro y1 w1 ho1 hg1 ha1
               have hb1 : Below wq.heap.size wq w1 := HBA.out.2.2.grown (by exact hg1) HBA.out.2.2.size (row_low HBA.out.1)
               have HO2 : Hid (w1.ownsRow wq.heap.size 49 5 y1 (0 + k) ([] ++ cellsTs (l.take k))) := Lib.hid ho1
               have HSf2 : Hid (Cl w1 (fun k => k = wq.heap.size) (.slice (some ⟨wq.heap.size, 0, none⟩) 1 1) 1 (cT ⟨xf, xl, xa, xz, xs⟩)) := Lib.hid (HSfBA.out.step (Fr.grown hg1 (S := fun k => k = wq.heap.size + 1) (fun k hk => (Option.some.inj hk).symm)) (fun k _ hk e => by omega))
               have HB2 : Hid (Below wq.heap.size wq w1) := Lib.hid hb1
               clear ho1 hg1 ha1 hb1)
            | (refine slTab.step_append rfl (.tmp 26) (.tmp 28) rfl wq.heap.size (v := y1) (by rfl) (by rfl) HO2.out HSf2.out rfl HcO.out (by omega) HB2.out.size ?_
               intro y2 w2 ho2 hg2 ha2
               obtain ⟨p6, c6, e6, _, _⟩ := row_shape ho2
               have e7 : y2 = .slice p6 (k + 1) c6 := by rw [e6, Nat.zero_add]
               subst e7
               have HO3 : Hid (w2.ownsRow wq.heap.size 49 5 (.slice p6 (k + 1) c6) (k + 1) (cellsTs (l.take k) ++ cT ⟨xf, xl, xa, xz, xs⟩)) := Lib.hid (by
                 have h1 := ho2
                 rw [Nat.zero_add, List.nil_append] at h1
                 exact h1)
               have HB3 : Hid (Below wq.heap.size wq w2) := Lib.hid (HB2.out.grown (by exact hg2) HB2.out.size (row_low HO2.out))
               clear ho2 hg2 ha2 e6))
          all_goals
            go_wp2_with fail
            go_meet
            exact ⟨p6, c6, rfl, Lib.hid ⟨HO3.out, HB3.out⟩⟩
        case rest =>
          obtain ⟨p6, c6, rfl, HR6⟩ := hcut
          obtain ⟨wf, rfl⟩ : ∃ wf : World, wf = wc := ⟨_, rfl⟩
          have HS2f := Lib.hid (HS2.out.below HR6.out.2)
          have HQs := HQB.out.size
          go_wp2_with (at_builtin
                       refine slTab.wpList_append rfl (.tmp 30) (.tmp 33) rfl wq.heap.size (v := .slice p6 (k + 1) c6) (u := v2) rfl rfl HR6.out.1 HS2f.out HL2.out (HOne.out _) (by omega) HR6.out.2.size ?_
                       intro v9 w9 ho9 hg9 ha9
                       have HB9 := Lib.hid (HR6.out.2.grown (by exact hg9) HR6.out.2.size (row_low HR6.out.1))
                       obtain ⟨p9, c9, e9, _, _⟩ := row_shape ho9
                       have e8 : v9 = .slice p9 (l.length + 1) c9 := by rw [e9]; congr 1; omega
                       subst e8
                       have HO9 := Lib.hid ho9
                       clear ho9 hg9 ha9 e9)
          go_ret
          refine ⟨k, p9, c9, hk, rfl, ?_, HQB.out.trans (HB9.out.mono HQs)⟩
          have h9 := row_base HO9.out HQs
          rw [show k + 1 + (l.length - k) = l.length + 1 by omega, HcT.out, ← cellsTs_app, ← cellsTs_app] at h9
          exact h9
end Go.Proofs.Yteclnnjijfbfoaa

/-
  The walk over glacierref8.one.
-/
namespace Go.Proofs.Yteclnnjijfbfoaa
open Go.RowKit

theorem verInfo (cs : Array Value) (hs : cs.size = 4) : (Try.prog.info? 44).map (·.size) = some cs.size := by rw [hs]; kernel_rfl
theorem results_ver2 {fn : Func} {p u : Tmp} (h : fn.results = #[.cell p 44, .tmp u]) (tmps : Array Value) (w : World) (g : Nat) (cs : Array Value) (b : Value) (hp : tmps.getD p undef = .pointer (some ⟨g, 0, none⟩)) (hb : tmps.getD u undef = b)
    (hg : w.heap[g]? = some (.cells cs 44 (0, 0))) (hs : cs.size = 4) : (results fn tmps).run Try.prog w = .ok (.tuple #[.agg cs, b]) w := by
  have hl := run_loadVar_row (P := Try.prog) w g _ 44 cs (0, 0) _ hg Try.underlying44 rfl (verInfo cs hs)
  rw [results_cell_tmp h, hp, hb]
  simp [asAddr, Result.andThen, hl]
/-- A table that an edit may add. -/
structure OkAdd (x : Tab) : Prop where
  f0 : 0 ≤ x.file
  f1 : x.file ≤ 1099511627776
  l0 : 0 ≤ x.level
  l6 : x.level ≤ 6
  kk : Op.bytesLess x.last x.first = false
  s0 : 0 ≤ x.size
  s1 : x.size ≤ 1099511627776

/-- What one goes on with. -/
structure OnN (w : World) (g1 g2 : Nat) (tv av dv : Value) (wr : World) : Prop where
  vb : wr.heap[w.heap.size]? = some (.cells #[tv, .int .u64 0, .int .i64 0, .int .i64 0] 44 (0, 0))
  eb : wr.heap[g1]? = some (.cells #[av, dv, .int .u64 0, .int .i64 0, .int .i64 0] 53 (0, 0))
  rb : wr.heap[g2]? = some (.cells #[.slice none 0 0, .int .u64 0, .int .i64 0, .int .i64 0] 44 (0, 0))
  bel : Below w.heap.size w wr
  n2 : w.heap.size ≤ g2
theorem OnN.after {w wr w' : World} {g1 g2 : Nat} {tv av dv : Value} (h : OnN w g1 g2 tv av dv wr) (hb : Below wr.heap.size wr w') : OnN w g1 g2 tv av dv w' :=
  ⟨(hb.block _ (block_lt h.vb)).trans h.vb, (hb.block _ (block_lt h.eb)).trans h.eb, (hb.block _ (block_lt h.rb)).trans h.rb, h.bel.trans (hb.mono h.bel.size), h.n2⟩

set_option maxRecDepth 100000 in
set_option maxHeartbeats 1000000 in
theorem one_any (w : World) (F G H : Nat → Prop) (tv av dv : Value) (ts U adds : List Tab) (ht : TsM w F tv ts) (ha : TsM w G av adds) (hd : Cl w H dv U.length (fileV U)) (hn : (filesT ts).Nodup) (hU : ∀ t ∈ U, t ∈ ts) (hUn : (filesT U).Nodup)
    (hl : ts.length + adds.length ≤ 65536) (hlU : U.length ≤ 65536) (hok : ∀ x ∈ adds, OkAdd x) (hnew : ∀ x ∈ adds, ∀ t ∈ ts, t.file ≠ x.file) (hna : (filesT adds).Nodup) (hpt : ∀ l : List Tab, l.Perm (restT ts U ++ adds) → PrtT l) :
    Calls Try.prog 24 #[.agg #[tv, .int .u64 0, .int .i64 0, .int .i64 0], .agg #[av, dv, .int .u64 0, .int .i64 0, .int .i64 0]] w fun r w' => ∃ (L : List Tab) (q : Option Addr) (c : Nat), L.Perm (restT ts U ++ adds) ∧
      r = .returned (.tuple #[.agg #[.slice q L.length c, .int .u64 0, .int .i64 0, .int .i64 0], .int .i64 0]) ∧ w'.ownsRow w.heap.size 49 5 (.slice q L.length c) L.length (cellsTs L) ∧ Below w.heap.size w w' := by
  obtain ⟨pa, capa, rfl, hac, ha47, hca, _⟩ := Cl.form ha
  have HA := Lib.hid ha
  have HNw := Lib.hid (And.intro hnew (And.intro hna hok))
  have HPt := Lib.hid hpt
  have hz0 := heap_alloc_new w (.cells #[tv, .int .u64 0, .int .i64 0, .int .i64 0] 44)
  obtain ⟨X0, hX0⟩ : ∃ X, w.alloc (.cells #[tv, .int .u64 0, .int .i64 0, .int .i64 0] 44) = X := ⟨_, rfl⟩
  have hbX0 : Below w.heap.size w X0 := by rw [← hX0]; exact belowA _ _
  rw [hX0] at hz0
  have hz1 := heap_alloc_new X0 (.cells #[.slice pa adds.length capa, dv, .int .u64 0, .int .i64 0, .int .i64 0] 53)
  obtain ⟨X1, hX1⟩ : ∃ X, X0.alloc (.cells #[.slice pa adds.length capa, dv, .int .u64 0, .int .i64 0, .int .i64 0] 53) = X := ⟨_, rfl⟩
  have hbX1 : Below X0.heap.size X0 X1 := by rw [← hX1]; exact belowA _ _
  rw [hX1] at hz1
  have hz2 := heap_alloc_new X1 (.cells #[.slice none 0 0, .int .u64 0, .int .i64 0, .int .i64 0] 44)
  obtain ⟨X2, hX2⟩ : ∃ X, X1.alloc (.cells #[.slice none 0 0, .int .u64 0, .int .i64 0, .int .i64 0] 44) = X := ⟨_, rfl⟩
  have hbX2 : Below X1.heap.size X1 X2 := by rw [← hX2]; exact belowA _ _
  rw [hX2] at hz2
  have hs01 : w.heap.size ≤ X1.heap.size := Nat.le_trans hbX0.size hbX1.size
  have HM : Hid (OnN w X0.heap.size X1.heap.size tv (.slice pa adds.length capa) dv X2) := Lib.hid ⟨(hbX2.block _ (Nat.lt_of_lt_of_le (block_lt hz0) hbX1.size)).trans ((hbX1.block _ (block_lt hz0)).trans hz0), (hbX2.block _ (block_lt hz1)).trans hz1, hz2, (hbX0.trans (hbX1.mono hbX0.size)).trans (hbX2.mono hs01), hs01⟩
  have b0 := cell_of (i := 0) HM.out.vb rfl
  have e1 := cell_of (i := 1) HM.out.eb rfl
  have HDr := Lib.hid (dropped_any X2 F H tv dv ts U (ht.below HM.out.bel) (hd.below HM.out.bel) hn hU hUn (by omega) hlU)
  have HSub := Lib.hid (And.intro (fun t (h : t ∈ restT ts U) => (mem_restT.1 h).1) (rest_len ts U))
  generalize restT ts U = R at *
  clear ht ha hd hn hU hUn hok hnew hna hpt hz0 hz1 hz2 hs01 hbX0 hbX1 hbX2
  have hRl := HSub.out.2
  go_enter Try.func24, Try.ntmps24
  go_wp2_with fail
  refine HDr.out.mono ?_
  rintro x w3 ⟨q0, c0, rfl, hrow, hb3⟩
  have HM3 := Lib.hid (HM.out.after hb3)
  have HRow0 : Hid (w3.ownsRow w.heap.size 49 5 (.slice q0 R.length c0) R.length (cellsTs R)) := Lib.hid (row_base hrow HM.out.bel.size)
  clear hrow hb3 HDr b0 e1
  go_wp2_with fail
  go_loopw [6, 8] (fun sv iv wr => ∃ (k : Nat) (L : List Tab) (q : Option Addr) (c : Nat), k ≤ adds.length ∧ iv = .int .i64 (k : Int) ∧ sv = .slice q L.length c ∧ Hid (L.Perm (R ++ adds.take k)) ∧ Hid (OnN w X0.heap.size X1.heap.size tv (.slice pa adds.length capa) dv wr ∧ wr.ownsRow w.heap.size 49 5 (.slice q L.length c) L.length (cellsTs L))) (fun _ iv _ => adds.length - (intOf iv).toNat)
  case atStart => exact ⟨0, R, q0, c0, by omega, rfl, rfl, Lib.hid (by simp), Lib.hid ⟨HM3.out, HRow0.out⟩⟩
  case round =>
    obtain ⟨k, L, q, c, hk, rfl, rfl, HPm, HR⟩ := hrel
    generalize wr = wz at *
    have hLl : L.length ≤ 65536 := by have := HPm.out.length_eq; rw [List.length_append, List.length_take] at this; omega
    have ec := cell_of (i := 0) HR.out.1.eb rfl
    have HCl : Hid (TsM wz (fun k => k < wz.heap.size) (.slice q L.length c) L) := Lib.hid (Cl.of_own HR.out.2 (by omega) (fun j hj => row_lt HR.out.2 j hj) (cellsTs_len _))
    by_cases hlt : k < adds.length
    · have d1 : decide ((k : Int) < (adds.length : Int)) = true := decide_eq_true (by omega)
      obtain ⟨b1, off1, rfl, hbl, e0, e1, e2, e3, e4⟩ := (HA.out.below HR.out.1.bel).at_ (List.getElem?_eq_getElem hlt)
      have hnof : ∀ t ∈ L, t.file ≠ (adds[k]).file := fun t ht => by
        rcases List.mem_append.1 ((HPm.out.mem_iff).1 ht) with h1 | h1
        · exact HNw.out.1 _ (List.getElem_mem hlt) t (HSub.out.1 t h1)
        · have h2 := HNw.out.2.1
          have h3 : adds = adds.take k ++ adds[k] :: adds.drop (k + 1) := by rw [← List.drop_eq_getElem_cons hlt, List.take_append_drop]
          rw [h3] at h2
          unfold filesT at h2
          rw [List.map_append, List.nodup_append] at h2
          exact h2.2.2 _ (List.mem_map_of_mem h1) _ (List.mem_map_of_mem (.head _))
      have hokx := HNw.out.2.2 _ (List.getElem_mem hlt)
      have HSn : Hid (adds.take (k + 1) = adds.take k ++ [adds[k]]) := Lib.hid (take_snoc adds k _ (List.getElem?_eq_getElem hlt))
      obtain ⟨x, hx⟩ : ∃ x, adds[k] = x := ⟨_, rfl⟩
      rw [hx] at e0 e1 e2 e3 e4 hnof hokx HSn
      obtain ⟨xf, xl, xa, xz, xs⟩ := x
      dsimp only at e0 e1 e2 e3 e4 hnof
      obtain ⟨hf0, hf1, hv0, hv6, hkk, hsz0, hsz1⟩ := hokx
      dsimp only at hf0 hf1 hv0 hv6 hkk hsz0 hsz1
      have q1 : decide (xf < 0) = false := decide_eq_false (by omega)
      have q2 : decide (1099511627776 < xf) = false := decide_eq_false (by omega)
      have q3 : decide (xl < 0) = false := decide_eq_false (by omega)
      have q4 : decide (6 < xl) = false := decide_eq_false (by omega)
      have q5 : decide (xs < 0) = false := decide_eq_false (by omega)
      have q6 : decide (1099511627776 < xs) = false := decide_eq_false (by omega)
      have hz := heap_alloc_new wz (.cells #[.int .i64 0, .int .i64 0, .string ⟨#[]⟩, .string ⟨#[]⟩, .int .i64 0] 49)
      obtain ⟨Y, hY⟩ : ∃ Y, wz.alloc (.cells #[.int .i64 0, .int .i64 0, .string ⟨#[]⟩, .string ⟨#[]⟩, .int .i64 0] 49) = Y := ⟨_, rfl⟩
      have hbY : Below wz.heap.size wz Y := by rw [← hY]; exact belowA _ _
      rw [hY] at hz
      have f0 := frozen_of (i := 0) hz
      have f1 := frozen_of (i := 1) hz
      have f2 := frozen_of (i := 2) hz
      have f3 := frozen_of (i := 3) hz
      have f4 := frozen_of (i := 4) hz
      have u0 := cell_of (i := 0) hz rfl
      have u1 := cell_of (i := 1) hz rfl
      have u2 := cell_of (i := 2) hz rfl
      have u3 := cell_of (i := 3) hz rfl
      have u4 := cell_of (i := 4) hz rfl
      obtain ⟨X, hX⟩ : ∃ X, set5 Y wz.heap.size (.int .i64 xf) (.int .i64 xl) (.string ⟨xa.toArray⟩) (.string ⟨xz.toArray⟩) (.int .i64 xs) = X := ⟨_, rfl⟩
      have hbX : Below wz.heap.size wz X := by rw [← hX]; exact hbY.trans ((set5_fr Y wz.heap.size _ _ _ _ _ (fun k => k = wz.heap.size) rfl).below hbY.size (fun k hk e => by omega))
      have hXa : X.heap[wz.heap.size]? = some (.cells #[.int .i64 xf, .int .i64 xl, .string ⟨xa.toArray⟩, .string ⟨xz.toArray⟩, .int .i64 xs] 49 (0, 0)) := by rw [← hX]; exact set5_heap hz _ _ _ _ _
      unfold set5 at hX
      have x0 := cell_of (i := 0) hXa rfl
      have x1 := cell_of (i := 1) hXa rfl
      have x2 := cell_of (i := 2) hXa rfl
      have x3 := cell_of (i := 3) hXa rfl
      have x4 := cell_of (i := 4) hXa rfl
      have HMX := Lib.hid (HR.out.1.after hbX)
      have HXs := Lib.hid (Nat.le_trans HR.out.1.bel.size hbX.size)
      have HPl := Lib.hid (place_any X _ _ L xf (HCl.out.below hbX) (by omega))
      have HAd := Lib.hid (added_any X _ _ L ⟨xf, xl, xa, xz, xs⟩ (HCl.out.below hbX) (by omega))
      have HNo := Lib.hid hnof
      have hways : Op.bytesLess xa xz = true ∨ (Op.bytesLess xa xz = false ∧ (xa == xz) = true) := by
        rcases e : Op.bytesLess xa xz with _ | _
        · exact .inr ⟨rfl, by rw [lessB_eq e hkk]; simp⟩
        · exact .inl rfl
      clear hz hbY hXa hbX hx hnof hf0 hf1 hv0 hv6 hsz0 hsz1 hbl hkk
      rcases hways with r1 | ⟨r1, r2⟩
      all_goals
       go_wp2_with fail
       refine HPl.out.mono ?_
       rintro r w5 ⟨rfl, n, rfl, hpl⟩
       obtain rfl : n = -1 := by
         rcases hpl with ⟨i, hi, _, h1⟩ | ⟨h1, _⟩
         · exact absurd h1 (HNo.out _ (List.getElem_mem hi))
         · exact h1
       clear hpl HPl
       go_wp2_with fail
       refine HAd.out.mono ?_
       rintro r w6 ⟨i, q6, c6, hi, rfl, hrow6, hb6⟩
       have HL6 : Hid ((L.take i ++ [(⟨xf, xl, xa, xz, xs⟩ : Tab)] ++ L.drop i).length = L.length + 1) := Lib.hid (by simp only [List.length_append, List.length_take, List.length_drop, List.length_singleton]; omega)
       have HP6 : Hid ((L.take i ++ [(⟨xf, xl, xa, xz, xs⟩ : Tab)] ++ L.drop i).Perm (R ++ adds.take (k + 1))) := Lib.hid (by
         rw [HSn.out, ← List.append_assoc]
         have h1 : (L.take i ++ [(⟨xf, xl, xa, xz, xs⟩ : Tab)] ++ L.drop i).Perm (L.take i ++ L.drop i ++ [⟨xf, xl, xa, xz, xs⟩]) := by
           rw [List.append_assoc, List.append_assoc]
           exact List.Perm.append_left _ List.perm_append_comm
         rw [List.take_append_drop] at h1
         exact h1.trans (HPm.out.append_right _))
       have HM6 := Lib.hid (And.intro (HMX.out.after hb6) (row_base hrow6 HXs.out))
       clear hrow6 hb6
       go_wp2_with fail
       go_roundw
       case rel => exact ⟨k + 1, L.take i ++ [⟨xf, xl, xa, xz, xs⟩] ++ L.drop i, q6, c6, by omega, by go_num, by rw [HL6.out], HP6, Lib.hid (by rw [HL6.out]; exact HM6.out)⟩
       case measure => simp [intOf]; omega
    · obtain rfl : k = adds.length := by omega
      have d1 : decide ((adds.length : Int) < (adds.length : Int)) = false := by simp
      rw [List.take_length] at HPm
      have d2 : decide ((65536 : Int) < (L.length : Int)) = false := decide_eq_false (by omega)
      have HPa := Lib.hid (parted_any wz _ _ L HCl.out (by omega) (HPt.out L HPm.out))
      go_wp2_with fail
      refine HPa.out.mono ?_
      rintro x w7 ⟨rfl, hb7⟩
      have HM7 := Lib.hid (HR.out.1.after hb7)
      have HRw7 := Lib.hid (row_keep HR.out.2 fun j hj => hb7.block j (row_lt HR.out.2 j hj))
      have v1 := cell_of (i := 1) HM7.out.vb rfl
      have v2 := cell_of (i := 2) HM7.out.vb rfl
      have v3 := cell_of (i := 3) HM7.out.vb rfl
      have e2 := cell_of (i := 2) HM7.out.eb rfl
      have e3 := cell_of (i := 3) HM7.out.eb rfl
      have e4 := cell_of (i := 4) HM7.out.eb rfl
      clear hb7 ec HPa
      have hz := heap_alloc_new w7 (.cells #[.slice none 0 0, .int .u64 0, .int .i64 0, .int .i64 0] 44)
      obtain ⟨Y, hY⟩ : ∃ Y, w7.alloc (.cells #[.slice none 0 0, .int .u64 0, .int .i64 0, .int .i64 0] 44) = Y := ⟨_, rfl⟩
      have hbY : Below w7.heap.size w7 Y := by rw [← hY]; exact belowA _ _
      rw [hY] at hz
      have f0 := frozen_of (i := 0) hz
      have f1 := frozen_of (i := 1) hz
      have f2 := frozen_of (i := 2) hz
      have f3 := frozen_of (i := 3) hz
      have u0 := cell_of (i := 0) hz rfl
      have u1 := cell_of (i := 1) hz rfl
      have u2 := cell_of (i := 2) hz rfl
      have u3 := cell_of (i := 3) hz rfl
      obtain ⟨Z, hZ⟩ : ∃ Z, set4 Y w7.heap.size (.slice q L.length c) (.int .u64 0) (.int .i64 0) (.int .i64 0) = Z := ⟨_, rfl⟩
      have hbZ : Below w7.heap.size w7 Z := by rw [← hZ]; exact hbY.trans ((set4_fr Y w7.heap.size _ _ _ _ (fun k => k = w7.heap.size) rfl).below hbY.size (fun k hk e => by omega))
      have hZa : Z.heap[w7.heap.size]? = some (.cells #[.slice q L.length c, .int .u64 0, .int .i64 0, .int .i64 0] 44 (0, 0)) := by rw [← hZ]; exact set4_heap hz _ _ _ _
      have hMZ := HM7.out.after hbZ
      unfold set4 at hZ
      have z0 := cell_of (i := 0) hZa rfl
      have z1 := cell_of (i := 1) hZa rfl
      have z2 := cell_of (i := 2) hZa rfl
      have z3 := cell_of (i := 3) hZa rfl
      have g0 := frozen_of (i := 0) hMZ.rb
      have g1 := frozen_of (i := 1) hMZ.rb
      have g2 := frozen_of (i := 2) hMZ.rb
      have g3 := frozen_of (i := 3) hMZ.rb
      have y2 := cell_of (i := 2) hMZ.eb rfl
      have y3 := cell_of (i := 3) hMZ.eb rfl
      have y4 := cell_of (i := 4) hMZ.eb rfl
      have c0 := cell_of (i := 0) hMZ.rb rfl
      have c1 := cell_of (i := 1) hMZ.rb rfl
      have c2 := cell_of (i := 2) hMZ.rb rfl
      have c3 := cell_of (i := 3) hMZ.rb rfl
      have HV := Lib.hid (set4_heap hMZ.rb (.slice q L.length c) (.int .u64 0) (.int .i64 0) (.int .i64 0))
      have HVb : Hid (Below w.heap.size w (set4 Z X1.heap.size (.slice q L.length c) (.int .u64 0) (.int .i64 0) (.int .i64 0))) := Lib.hid (hMZ.bel.trans ((set4_fr Z X1.heap.size _ _ _ _ (fun k => k = X1.heap.size) rfl).below hMZ.bel.size (fun k hk e => by have := hMZ.n2; omega)))
      have HVr : Hid ((set4 Z X1.heap.size (.slice q L.length c) (.int .u64 0) (.int .i64 0) (.int .i64 0)).ownsRow w.heap.size 49 5 (.slice q L.length c) L.length (cellsTs L)) := Lib.hid (row_keep (row_keep HRw7.out fun j hj => hbZ.block j (row_lt HRw7.out j hj)) fun j hj => (set4_fr Z X1.heap.size _ _ _ _ (fun k => k = X1.heap.size) rfl).block j (Nat.lt_of_lt_of_le (row_lt HRw7.out j hj) hbZ.size) (fun e => by
        obtain ⟨cur, hc⟩ := row_heap HRw7.out hj
        exact kind_ne hc HM7.out.rb (by decide) e))
      clear hz hbY hbZ hZa hMZ
      go_wp2_with fail
      refine bodyPost_ret (v := .tuple #[.agg #[.slice q L.length c, .int .u64 0, .int .i64 0, .int .i64 0], .int .i64 0]) (results_ver2 rfl _ _ X1.heap.size _ _ rfl rfl HV.out rfl) rfl ?_
      exact ⟨L, q, c, HPm.out, rfl, HVr.out, HVb.out⟩
end Go.Proofs.Yteclnnjijfbfoaa

/-
  The walk over glacierref8.Apply, of one edit.
-/
namespace Go.Proofs.Yteclnnjijfbfoaa
open Go.RowKit

/-- What Apply goes on with. -/
structure ApN (w : World) (g1 bx : Nat) (lv : Value) (wr : World) : Prop where
  rb : wr.heap[g1]? = some (.cells #[.slice none 0 0, .int .u64 0, .int .i64 0, .int .i64 0] 44 (0, 0))
  ob : wr.heap[bx]? = some (.cells #[lv, .int .u64 0, .int .i64 0, .int .i64 0] 44 (0, 0))
  bel : Below w.heap.size w wr
  n1 : w.heap.size ≤ g1
  n2 : w.heap.size ≤ bx
  ne : g1 ≠ bx
theorem ApN.after {w wr w' : World} {g1 bx : Nat} {lv : Value} (h : ApN w g1 bx lv wr) (hb : Below wr.heap.size wr w') : ApN w g1 bx lv w' :=
  ⟨(hb.block _ (block_lt h.rb)).trans h.rb, (hb.block _ (block_lt h.ob)).trans h.ob, h.bel.trans (hb.mono h.bel.size), h.n1, h.n2, h.ne⟩
theorem ApN.set {w wr : World} {g1 bx : Nat} {lv : Value} (h : ApN w g1 bx lv wr) (u : Value) : ApN w g1 bx u (set4 wr bx u (.int .u64 0) (.int .i64 0) (.int .i64 0)) := by
  have hf := set4_fr wr bx u (.int .u64 0) (.int .i64 0) (.int .i64 0) (fun k => k = bx) rfl
  exact ⟨(hf.block _ (block_lt h.rb) h.ne).trans h.rb, set4_heap h.ob _ _ _ _, h.bel.trans (hf.below h.bel.size (fun k hk e => by have := h.n2; omega)), h.n1, h.n2, h.ne⟩

set_option maxRecDepth 100000 in
set_option maxHeartbeats 2000000 in
theorem apply_any (w : World) (F G H : Nat → Prop) (tv av dv : Value) (eb : Nat) (ts U adds : List Tab) (he : w.heap[eb]? = some (.cells #[av, dv, .int .u64 0, .int .i64 0, .int .i64 0] 53 (0, 0))) (ht : TsM w F tv ts) (ha : TsM w G av adds) (hd : Cl w H dv U.length (fileV U)) (hn : (filesT ts).Nodup) (hU : ∀ t ∈ U, t ∈ ts) (hUn : (filesT U).Nodup)
    (hl : ts.length + adds.length ≤ 65536) (hlU : U.length ≤ 65536) (hok : ∀ x ∈ adds, OkAdd x) (hnew : ∀ x ∈ adds, ∀ t ∈ ts, t.file ≠ x.file) (hna : (filesT adds).Nodup) (hpt : ∀ l : List Tab, l.Perm (restT ts U ++ adds) → PrtT l) :
    Calls Try.prog 13 #[.agg #[tv, .int .u64 0, .int .i64 0, .int .i64 0], .slice (some ⟨eb, 0, none⟩) 1 1] w fun r w' => ∃ (L : List Tab) (q : Option Addr) (c : Nat), L.Perm (restT ts U ++ adds) ∧
      r = .returned (.tuple #[.agg #[.slice q L.length c, .int .u64 0, .int .i64 0, .int .i64 0], .int .i64 0]) ∧ w'.ownsRow w.heap.size 49 5 (.slice q L.length c) L.length (cellsTs L) ∧ Below w.heap.size w w' := by
  obtain ⟨pt, capt, rfl, htc, ht47, hct, _⟩ := Cl.form ht
  have HTs := Lib.hid ht
  have HEb := Lib.hid he
  have HOn := Lib.hid (fun (V : World) (F' : Nat → Prop) (u : Value) (hV : Below w.heap.size w V) (hu : TsM V F' u ts) => one_any V F' G H u av dv ts U adds hu (ha.below hV) (hd.below hV) hn hU hUn hl hlU hok hnew hna hpt)
  have HOne := Lib.hid (fun l => cellsTs_one l)
  have HLen := Lib.hid (fun l => cellsTs_len l)
  generalize restT ts U = R at *
  have hz0 := heap_alloc_new w (.cells #[.slice pt ts.length capt, .int .u64 0, .int .i64 0, .int .i64 0] 44)
  obtain ⟨X0, hX0⟩ : ∃ X, w.alloc (.cells #[.slice pt ts.length capt, .int .u64 0, .int .i64 0, .int .i64 0] 44) = X := ⟨_, rfl⟩
  have hbX0 : Below w.heap.size w X0 := by rw [← hX0]; exact belowA _ _
  rw [hX0] at hz0
  have hz1 := heap_alloc_new X0 (.cells #[.slice none 0 0, .int .u64 0, .int .i64 0, .int .i64 0] 44)
  obtain ⟨X1, hX1⟩ : ∃ X, X0.alloc (.cells #[.slice none 0 0, .int .u64 0, .int .i64 0, .int .i64 0] 44) = X := ⟨_, rfl⟩
  have hbX1 : Below X0.heap.size X0 X1 := by rw [← hX1]; exact belowA _ _
  rw [hX1] at hz1
  have hz01 := (hbX1.block _ (block_lt hz0)).trans hz0
  have hb01 : Below w.heap.size w X1 := hbX0.trans (hbX1.mono hbX0.size)
  have HB01 := Lib.hid (And.intro hb01 (And.intro hz1 hbX0.size))
  have HTX := Lib.hid (HTs.out.below hb01)
  have hg0 : w.heap.size < X1.heap.size := block_lt hz01
  have v0 := cell_of (i := 0) hz01 rfl
  have v1 := cell_of (i := 1) hz01 rfl
  have v2 := cell_of (i := 2) hz01 rfl
  have v3 := cell_of (i := 3) hz01 rfl
  clear ht he ha hd hn hU hUn hok hnew hna hpt hz0 hz1 hz01 hbX0 hbX1 hb01
  go_enter Try.func13, Try.ntmps13
  go_upto_region 1 with (fail)
  go_cut [6] (fun a wx => ∃ bx q c, a = .pointer (some ⟨bx, 0, none⟩) ∧ Hid (ApN w X0.heap.size bx (.slice q ts.length c) wx) ∧ Hid (wx.ownsRow w.heap.size 49 5 (.slice q ts.length c) ts.length (cellsTs ts)))
  case first =>
    have hold : ∀ (Y : World) (o : Obj) (b off : Nat) (v : Value), b < Y.heap.size → Y.cell? ⟨b, off, none⟩ = some v → (Y.alloc o).cell? ⟨b, off, none⟩ = some v := fun Y o b off v hb hc => (World.cell?_of_block (alloc_old hb o)).trans hc
    have HKp : Hid (∀ V, Below X1.heap.size X1 V → (V.cell? ⟨w.heap.size, 0, none⟩ = some (.slice pt ts.length capt) ∧ V.cell? ⟨w.heap.size, 1, none⟩ = some (.int .u64 0) ∧ V.cell? ⟨w.heap.size, 2, none⟩ = some (.int .i64 0) ∧ V.cell? ⟨w.heap.size, 3, none⟩ = some (.int .i64 0))) := Lib.hid (fun V hV => ⟨(below_cells hV _ _ hg0).trans v0, (below_cells hV _ _ hg0).trans v1, (below_cells hV _ _ hg0).trans v2, (below_cells hV _ _ hg0).trans v3⟩)
    have hbA : Below X1.heap.size X1 (X1.drew.alloc (.cells #[] 49)) := (below_drew (Below.refl _ _)).alloc (Nat.le_refl _) _
    have hbB : Below X1.heap.size X1 (X1.drew.alloc (.cells #[.slice none 0 0, .int .u64 0, .int .i64 0, .int .i64 0] 44)) := (below_drew (Below.refl _ _)).alloc (Nat.le_refl _) _
    have hbAB : Below X1.heap.size X1 ((X1.drew.alloc (.cells #[] 49)).alloc (.cells #[.slice none 0 0, .int .u64 0, .int .i64 0, .int .i64 0] 44)) := hbA.alloc hbA.size _
    have hbBA : Below X1.heap.size X1 ((X1.drew.alloc (.cells #[.slice none 0 0, .int .u64 0, .int .i64 0, .int .i64 0] 44)).alloc (.cells #[] 49)) := hbB.alloc hbB.size _
    have rA : (X1.drew.alloc (.cells #[] 49)).ownsRow X1.heap.size 49 5 (.slice (some ⟨X1.heap.size, 0, none⟩) 0 0) 0 [] := World.ownsRow_lit (e := 49) (size := 5) X1.drew #[] 0 (Nat.le_refl _) (Nat.zero_le _) rfl
    have HA : Hid ((X1.drew.alloc (.cells #[] 49)).ownsRow X1.heap.size 49 5 (.slice (some ⟨X1.heap.size, 0, none⟩) 0 0) 0 [] ∧ TsM (X1.drew.alloc (.cells #[] 49)) F (.slice pt ts.length capt) ts ∧ Below X1.heap.size X1 (X1.drew.alloc (.cells #[] 49))) := Lib.hid ⟨rA, HTX.out.below hbA, hbA⟩
    have HAB : Hid (((X1.drew.alloc (.cells #[] 49)).alloc (.cells #[.slice none 0 0, .int .u64 0, .int .i64 0, .int .i64 0] 44)).ownsRow X1.heap.size 49 5 (.slice (some ⟨X1.heap.size, 0, none⟩) 0 0) 0 [] ∧ TsM ((X1.drew.alloc (.cells #[] 49)).alloc (.cells #[.slice none 0 0, .int .u64 0, .int .i64 0, .int .i64 0] 44)) F (.slice pt ts.length capt) ts ∧ Below X1.heap.size X1 ((X1.drew.alloc (.cells #[] 49)).alloc (.cells #[.slice none 0 0, .int .u64 0, .int .i64 0, .int .i64 0] 44)) ∧ ((X1.drew.alloc (.cells #[] 49)).alloc (.cells #[.slice none 0 0, .int .u64 0, .int .i64 0, .int .i64 0] 44)).heap[X1.heap.size + 1]? = some (.cells #[.slice none 0 0, .int .u64 0, .int .i64 0, .int .i64 0] 44 (0, 0))) := by
      have h1 := heap_alloc_new (X1.drew.alloc (.cells #[] 49)) (.cells #[.slice none 0 0, .int .u64 0, .int .i64 0, .int .i64 0] 44)
      rw [show (X1.drew.alloc (.cells #[] 49)).heap.size = X1.heap.size + 1 by simp] at h1
      exact Lib.hid ⟨row_keep rA (fun k hk => by obtain rfl := Option.some.inj hk; exact alloc_old (by simp) _), HTX.out.below hbAB, hbAB, h1⟩
    have HBA : Hid (((X1.drew.alloc (.cells #[.slice none 0 0, .int .u64 0, .int .i64 0, .int .i64 0] 44)).alloc (.cells #[] 49)).ownsRow X1.heap.size 49 5 (.slice (some ⟨X1.heap.size + 1, 0, none⟩) 0 0) 0 [] ∧ TsM ((X1.drew.alloc (.cells #[.slice none 0 0, .int .u64 0, .int .i64 0, .int .i64 0] 44)).alloc (.cells #[] 49)) F (.slice pt ts.length capt) ts ∧ Below X1.heap.size X1 ((X1.drew.alloc (.cells #[.slice none 0 0, .int .u64 0, .int .i64 0, .int .i64 0] 44)).alloc (.cells #[] 49)) ∧ ((X1.drew.alloc (.cells #[.slice none 0 0, .int .u64 0, .int .i64 0, .int .i64 0] 44)).alloc (.cells #[] 49)).heap[X1.heap.size]? = some (.cells #[.slice none 0 0, .int .u64 0, .int .i64 0, .int .i64 0] 44 (0, 0))) := by
      have h1 := World.ownsRow_lit (e := 49) (size := 5) (X1.drew.alloc (.cells #[.slice none 0 0, .int .u64 0, .int .i64 0, .int .i64 0] 44)) #[] 0 hbB.size (Nat.zero_le _) rfl
      rw [show (X1.drew.alloc (.cells #[.slice none 0 0, .int .u64 0, .int .i64 0, .int .i64 0] 44)).heap.size = X1.heap.size + 1 by simp] at h1
      exact Lib.hid ⟨h1, HTX.out.below hbBA, hbBA, (alloc_old (by simp) _).trans (heap_alloc_new X1.drew (.cells #[.slice none 0 0, .int .u64 0, .int .i64 0, .int .i64 0] 44))⟩
    have HbA := Lib.hid hbA
    have HbB := Lib.hid hbB
    have HbAB := Lib.hid hbAB
    have HbBA := Lib.hid hbBA
    clear hbA hbB hbAB hbBA hold rA
    have HRHA : Hid (∀ (y1 : Value) (w1 : World), World.ownsRow w1 X1.heap.size 49 5 y1 (0 + ts.length) ([] ++ cellsTs ts) → World.grownBy (X1.drew.alloc (.cells #[] 49)) w1 (Value.slice (some ⟨X1.heap.size, 0, none⟩) 0 0).ownBlock → ∃ (p4 : Option Addr) (c4 : Nat), y1 = .slice p4 ts.length c4 ∧ Hid (Below X1.heap.size X1 w1) ∧ Hid (Below X1.heap.size X1 (w1.alloc (.cells #[.slice none 0 0, .int .u64 0, .int .i64 0, .int .i64 0] 44))) ∧ Hid (Below X1.heap.size X1 (w1.alloc (.cells #[.slice p4 ts.length c4, .int .u64 0, .int .i64 0, .int .i64 0] 44))) ∧ (w1.alloc (.cells #[.slice none 0 0, .int .u64 0, .int .i64 0, .int .i64 0] 44)).frozen? ⟨w1.heap.size, 0, none⟩ = false ∧ (w1.alloc (.cells #[.slice none 0 0, .int .u64 0, .int .i64 0, .int .i64 0] 44)).frozen? ⟨w1.heap.size, 1, none⟩ = false ∧ (w1.alloc (.cells #[.slice none 0 0, .int .u64 0, .int .i64 0, .int .i64 0] 44)).frozen? ⟨w1.heap.size, 2, none⟩ = false ∧ (w1.alloc (.cells #[.slice none 0 0, .int .u64 0, .int .i64 0, .int .i64 0] 44)).frozen? ⟨w1.heap.size, 3, none⟩ = false ∧ (w1.alloc (.cells #[.slice none 0 0, .int .u64 0, .int .i64 0, .int .i64 0] 44)).cell? ⟨w1.heap.size, 0, none⟩ = some (.slice none 0 0) ∧ (w1.alloc (.cells #[.slice none 0 0, .int .u64 0, .int .i64 0, .int .i64 0] 44)).cell? ⟨w1.heap.size, 1, none⟩ = some (.int .u64 0) ∧ (w1.alloc (.cells #[.slice none 0 0, .int .u64 0, .int .i64 0, .int .i64 0] 44)).cell? ⟨w1.heap.size, 2, none⟩ = some (.int .i64 0) ∧ (w1.alloc (.cells #[.slice none 0 0, .int .u64 0, .int .i64 0, .int .i64 0] 44)).cell? ⟨w1.heap.size, 3, none⟩ = some (.int .i64 0) ∧ Hid (ApN w X0.heap.size w1.heap.size (.slice p4 ts.length c4) (w1.alloc (.cells #[.slice p4 ts.length c4, .int .u64 0, .int .i64 0, .int .i64 0] 44))) ∧ Hid ((w1.alloc (.cells #[.slice p4 ts.length c4, .int .u64 0, .int .i64 0, .int .i64 0] 44)).ownsRow w.heap.size 49 5 (.slice p4 ts.length c4) ts.length (cellsTs ts))) := Lib.hid (by
      intro y1 w1 ho1 hg1
      have hb1 : Below X1.heap.size X1 w1 := HA.out.2.2.grown (by exact hg1) HA.out.2.2.size (row_low HA.out.1)
      obtain ⟨p4, c4, e4, _, _⟩ := row_shape ho1
      have e5 : y1 = .slice p4 ts.length c4 := by rw [e4, Nat.zero_add]
      subst e5
      have ho : w1.ownsRow X1.heap.size 49 5 (.slice p4 ts.length c4) ts.length (cellsTs ts) := by have h := ho1; rwa [Nat.zero_add, List.nil_append] at h
      have hq : w1.heap[w.heap.size]? = X1.heap[w.heap.size]? := hb1.block _ hg0
      have hbx := heap_alloc_new w1 (.cells #[.slice none 0 0, .int .u64 0, .int .i64 0, .int .i64 0] 44)
      have hq2 : (w1.alloc (.cells #[.slice none 0 0, .int .u64 0, .int .i64 0, .int .i64 0] 44)).heap[w.heap.size]? = X1.heap[w.heap.size]? := (alloc_old (Nat.lt_of_lt_of_le hg0 hb1.size) _).trans hq
      have hbw : Below X1.heap.size X1 (w1.alloc (.cells #[.slice none 0 0, .int .u64 0, .int .i64 0, .int .i64 0] 44)) := hb1.alloc hb1.size _
      have how : (w1.alloc (.cells #[.slice none 0 0, .int .u64 0, .int .i64 0, .int .i64 0] 44)).ownsRow X1.heap.size 49 5 (.slice p4 ts.length c4) ts.length (cellsTs ts) := row_keep ho fun j hj => alloc_old (row_lt ho j hj) _
      have hbxl : X1.heap.size ≤ w1.heap.size := hb1.size
      have hbw2 : Below X1.heap.size X1 (w1.alloc (.cells #[.slice p4 ts.length c4, .int .u64 0, .int .i64 0, .int .i64 0] 44)) := hb1.alloc hb1.size _
      have HFin : Hid (ApN w X0.heap.size w1.heap.size (.slice p4 ts.length c4) (w1.alloc (.cells #[.slice p4 ts.length c4, .int .u64 0, .int .i64 0, .int .i64 0] 44))) := Lib.hid ⟨(hbw2.block _ (block_lt HB01.out.2.1)).trans HB01.out.2.1, heap_alloc_new w1 _, HB01.out.1.trans (hbw2.mono HB01.out.1.size), HB01.out.2.2, Nat.le_trans HB01.out.1.size hbxl, Nat.ne_of_lt (Nat.lt_of_lt_of_le (block_lt HB01.out.2.1) hbxl)⟩
      have HRw : Hid ((w1.alloc (.cells #[.slice p4 ts.length c4, .int .u64 0, .int .i64 0, .int .i64 0] 44)).ownsRow w.heap.size 49 5 (.slice p4 ts.length c4) ts.length (cellsTs ts)) := Lib.hid (row_base (row_keep ho fun j hj => alloc_old (row_lt ho j hj) _) HB01.out.1.size)
      exact ⟨p4, c4, rfl, Lib.hid hb1, Lib.hid hbw, Lib.hid hbw2, frozen_of (i := 0) hbx, frozen_of (i := 1) hbx, frozen_of (i := 2) hbx, frozen_of (i := 3) hbx, cell_of (i := 0) hbx rfl, cell_of (i := 1) hbx rfl, cell_of (i := 2) hbx rfl, cell_of (i := 3) hbx rfl, HFin, HRw⟩)
    have HRHAB : Hid (∀ (y1 : Value) (w1 : World), World.ownsRow w1 X1.heap.size 49 5 y1 (0 + ts.length) ([] ++ cellsTs ts) → World.grownBy ((X1.drew.alloc (.cells #[] 49)).alloc (.cells #[.slice none 0 0, .int .u64 0, .int .i64 0, .int .i64 0] 44)) w1 (Value.slice (some ⟨X1.heap.size, 0, none⟩) 0 0).ownBlock → ∃ (p4 : Option Addr) (c4 : Nat), y1 = .slice p4 ts.length c4 ∧ Hid (Below X1.heap.size X1 w1) ∧ Hid (Below X1.heap.size X1 w1) ∧ Hid (Below X1.heap.size X1 (set4 w1 (X1.heap.size + 1) (.slice p4 ts.length c4) (.int .u64 0) (.int .i64 0) (.int .i64 0))) ∧ w1.frozen? ⟨(X1.heap.size + 1), 0, none⟩ = false ∧ w1.frozen? ⟨(X1.heap.size + 1), 1, none⟩ = false ∧ w1.frozen? ⟨(X1.heap.size + 1), 2, none⟩ = false ∧ w1.frozen? ⟨(X1.heap.size + 1), 3, none⟩ = false ∧ w1.cell? ⟨(X1.heap.size + 1), 0, none⟩ = some (.slice none 0 0) ∧ w1.cell? ⟨(X1.heap.size + 1), 1, none⟩ = some (.int .u64 0) ∧ w1.cell? ⟨(X1.heap.size + 1), 2, none⟩ = some (.int .i64 0) ∧ w1.cell? ⟨(X1.heap.size + 1), 3, none⟩ = some (.int .i64 0) ∧ Hid (ApN w X0.heap.size (X1.heap.size + 1) (.slice p4 ts.length c4) (set4 w1 (X1.heap.size + 1) (.slice p4 ts.length c4) (.int .u64 0) (.int .i64 0) (.int .i64 0))) ∧ Hid ((set4 w1 (X1.heap.size + 1) (.slice p4 ts.length c4) (.int .u64 0) (.int .i64 0) (.int .i64 0)).ownsRow w.heap.size 49 5 (.slice p4 ts.length c4) ts.length (cellsTs ts))) := Lib.hid (by
      intro y1 w1 ho1 hg1
      have hb1 : Below X1.heap.size X1 w1 := HAB.out.2.2.1.grown (by exact hg1) HAB.out.2.2.1.size (row_low HAB.out.1)
      obtain ⟨p4, c4, e4, _, _⟩ := row_shape ho1
      have e5 : y1 = .slice p4 ts.length c4 := by rw [e4, Nat.zero_add]
      subst e5
      have ho : w1.ownsRow X1.heap.size 49 5 (.slice p4 ts.length c4) ts.length (cellsTs ts) := by have h := ho1; rwa [Nat.zero_add, List.nil_append] at h
      have hq : w1.heap[w.heap.size]? = X1.heap[w.heap.size]? := hb1.block _ hg0
      have hbx : w1.heap[(X1.heap.size + 1)]? = some (.cells #[.slice none 0 0, .int .u64 0, .int .i64 0, .int .i64 0] 44 (0, 0)) := (hg1.block ((X1.heap.size + 1)) (block_lt HAB.out.2.2.2) (fun e => absurd (Option.some.inj e) (Nat.succ_ne_self _))).trans HAB.out.2.2.2
      have hbw := hb1
      have how := ho
      have hbxl : X1.heap.size ≤ (X1.heap.size + 1) := by omega
      have HFin : Hid (ApN w X0.heap.size (X1.heap.size + 1) (.slice p4 ts.length c4) (set4 w1 (X1.heap.size + 1) (.slice p4 ts.length c4) (.int .u64 0) (.int .i64 0) (.int .i64 0))) := Lib.hid (ApN.set (lv := .slice none 0 0) ⟨(hbw.block _ (block_lt HB01.out.2.1)).trans HB01.out.2.1, hbx, HB01.out.1.trans (hbw.mono HB01.out.1.size), HB01.out.2.2, Nat.le_trans HB01.out.1.size hbxl, Nat.ne_of_lt (Nat.lt_of_lt_of_le (block_lt HB01.out.2.1) hbxl)⟩ _)
      have HRw : Hid ((set4 w1 (X1.heap.size + 1) (.slice p4 ts.length c4) (.int .u64 0) (.int .i64 0) (.int .i64 0)).ownsRow w.heap.size 49 5 (.slice p4 ts.length c4) ts.length (cellsTs ts)) := Lib.hid (row_base (row_keep how fun j hj => (set4_fr _ (X1.heap.size + 1) _ _ _ _ (fun k => k = (X1.heap.size + 1)) rfl).block j (row_lt how j hj) (fun e => by
        obtain ⟨cur, hc⟩ := row_heap how hj
        exact kind_ne hc hbx (by decide) e)) HB01.out.1.size)
      exact ⟨p4, c4, rfl, Lib.hid hb1, Lib.hid hbw, Lib.hid (hbw.trans ((set4_fr _ (X1.heap.size + 1) _ _ _ _ (fun k => k = (X1.heap.size + 1)) rfl).below hbw.size (fun k hk e => by omega))), frozen_of (i := 0) hbx, frozen_of (i := 1) hbx, frozen_of (i := 2) hbx, frozen_of (i := 3) hbx, cell_of (i := 0) hbx rfl, cell_of (i := 1) hbx rfl, cell_of (i := 2) hbx rfl, cell_of (i := 3) hbx rfl, HFin, HRw⟩)
    have HRHBA : Hid (∀ (y1 : Value) (w1 : World), World.ownsRow w1 X1.heap.size 49 5 y1 (0 + ts.length) ([] ++ cellsTs ts) → World.grownBy ((X1.drew.alloc (.cells #[.slice none 0 0, .int .u64 0, .int .i64 0, .int .i64 0] 44)).alloc (.cells #[] 49)) w1 (Value.slice (some ⟨X1.heap.size + 1, 0, none⟩) 0 0).ownBlock → ∃ (p4 : Option Addr) (c4 : Nat), y1 = .slice p4 ts.length c4 ∧ Hid (Below X1.heap.size X1 w1) ∧ Hid (Below X1.heap.size X1 w1) ∧ Hid (Below X1.heap.size X1 (set4 w1 X1.heap.size (.slice p4 ts.length c4) (.int .u64 0) (.int .i64 0) (.int .i64 0))) ∧ w1.frozen? ⟨X1.heap.size, 0, none⟩ = false ∧ w1.frozen? ⟨X1.heap.size, 1, none⟩ = false ∧ w1.frozen? ⟨X1.heap.size, 2, none⟩ = false ∧ w1.frozen? ⟨X1.heap.size, 3, none⟩ = false ∧ w1.cell? ⟨X1.heap.size, 0, none⟩ = some (.slice none 0 0) ∧ w1.cell? ⟨X1.heap.size, 1, none⟩ = some (.int .u64 0) ∧ w1.cell? ⟨X1.heap.size, 2, none⟩ = some (.int .i64 0) ∧ w1.cell? ⟨X1.heap.size, 3, none⟩ = some (.int .i64 0) ∧ Hid (ApN w X0.heap.size X1.heap.size (.slice p4 ts.length c4) (set4 w1 X1.heap.size (.slice p4 ts.length c4) (.int .u64 0) (.int .i64 0) (.int .i64 0))) ∧ Hid ((set4 w1 X1.heap.size (.slice p4 ts.length c4) (.int .u64 0) (.int .i64 0) (.int .i64 0)).ownsRow w.heap.size 49 5 (.slice p4 ts.length c4) ts.length (cellsTs ts))) := Lib.hid (by
      intro y1 w1 ho1 hg1
      have hb1 : Below X1.heap.size X1 w1 := HBA.out.2.2.1.grown (by exact hg1) HBA.out.2.2.1.size (row_low HBA.out.1)
      obtain ⟨p4, c4, e4, _, _⟩ := row_shape ho1
      have e5 : y1 = .slice p4 ts.length c4 := by rw [e4, Nat.zero_add]
      subst e5
      have ho : w1.ownsRow X1.heap.size 49 5 (.slice p4 ts.length c4) ts.length (cellsTs ts) := by have h := ho1; rwa [Nat.zero_add, List.nil_append] at h
      have hq : w1.heap[w.heap.size]? = X1.heap[w.heap.size]? := hb1.block _ hg0
      have hbx : w1.heap[X1.heap.size]? = some (.cells #[.slice none 0 0, .int .u64 0, .int .i64 0, .int .i64 0] 44 (0, 0)) := (hg1.block (X1.heap.size) (block_lt HBA.out.2.2.2) (fun e => absurd (Option.some.inj e).symm (Nat.succ_ne_self _))).trans HBA.out.2.2.2
      have hbw := hb1
      have how := ho
      have hbxl : X1.heap.size ≤ X1.heap.size := by omega
      have HFin : Hid (ApN w X0.heap.size X1.heap.size (.slice p4 ts.length c4) (set4 w1 X1.heap.size (.slice p4 ts.length c4) (.int .u64 0) (.int .i64 0) (.int .i64 0))) := Lib.hid (ApN.set (lv := .slice none 0 0) ⟨(hbw.block _ (block_lt HB01.out.2.1)).trans HB01.out.2.1, hbx, HB01.out.1.trans (hbw.mono HB01.out.1.size), HB01.out.2.2, Nat.le_trans HB01.out.1.size hbxl, Nat.ne_of_lt (Nat.lt_of_lt_of_le (block_lt HB01.out.2.1) hbxl)⟩ _)
      have HRw : Hid ((set4 w1 X1.heap.size (.slice p4 ts.length c4) (.int .u64 0) (.int .i64 0) (.int .i64 0)).ownsRow w.heap.size 49 5 (.slice p4 ts.length c4) ts.length (cellsTs ts)) := Lib.hid (row_base (row_keep how fun j hj => (set4_fr _ X1.heap.size _ _ _ _ (fun k => k = X1.heap.size) rfl).block j (row_lt how j hj) (fun e => by
        obtain ⟨cur, hc⟩ := row_heap how hj
        exact kind_ne hc hbx (by decide) e)) HB01.out.1.size)
      exact ⟨p4, c4, rfl, Lib.hid hb1, Lib.hid hbw, Lib.hid (hbw.trans ((set4_fr _ X1.heap.size _ _ _ _ (fun k => k = X1.heap.size) rfl).below hbw.size (fun k hk e => by omega))), frozen_of (i := 0) hbx, frozen_of (i := 1) hbx, frozen_of (i := 2) hbx, frozen_of (i := 3) hbx, cell_of (i := 0) hbx rfl, cell_of (i := 1) hbx rfl, cell_of (i := 2) hbx rfl, cell_of (i := 3) hbx rfl, HFin, HRw⟩)
    have HLt : Hid (0 + ts.length ≤ 68719476736) := Lib.hid (by omega)
    clear HTX
    clear v0 v1 v2 v3
    go_region_held3 (fun V => V.cell? ⟨w.heap.size, 0, none⟩ = some (.slice pt ts.length capt) ∧ V.cell? ⟨w.heap.size, 1, none⟩ = some (.int .u64 0) ∧ V.cell? ⟨w.heap.size, 2, none⟩ = some (.int .i64 0) ∧ V.cell? ⟨w.heap.size, 3, none⟩ = some (.int .i64 0))
      (first
        | exact HKp.out _ (below_drew (Below.refl _ _))
        | exact HKp.out _ HbA.out
        | exact HKp.out _ HbB.out
        | exact HKp.out _ HbAB.out
        | exact HKp.out _ HbBA.out
        | exact HKp.out _ HW1.out
        | exact HKp.out _ HW2.out
        | exact HKp.out _ HW3.out)
      (first
      | (refine slTab.step_append rfl (.tmp 9) (.tmp 11) rfl X1.heap.size (v := .slice (some ⟨X1.heap.size, 0, none⟩) 0 0) (u := .slice pt ts.length capt) (by rfl) (by rfl) HA.out.1 HA.out.2.1 (HLen.out ts) (HOne.out ts) HLt.out HA.out.2.2.size ?_
         intro y1 w1 ho1 hg1 ha1
         obtain ⟨p4, c4, rfl, HW1, HW2, HW3, fz0, fz1, fz2, fz3, ux0, ux1, ux2, ux3, HFin, HRw⟩ := HRHA.out y1 w1 ho1 hg1
         clear ho1 hg1 ha1)
      | (refine slTab.step_append rfl (.tmp 9) (.tmp 11) rfl X1.heap.size (v := .slice (some ⟨X1.heap.size, 0, none⟩) 0 0) (u := .slice pt ts.length capt) (by rfl) (by rfl) HAB.out.1 HAB.out.2.1 (HLen.out ts) (HOne.out ts) HLt.out HAB.out.2.2.1.size ?_
         intro y1 w1 ho1 hg1 ha1
         obtain ⟨p4, c4, rfl, HW1, HW2, HW3, fz0, fz1, fz2, fz3, ux0, ux1, ux2, ux3, HFin, HRw⟩ := HRHAB.out y1 w1 ho1 hg1
         clear ho1 hg1 ha1)
      | (refine slTab.step_append rfl (.tmp 9) (.tmp 11) rfl X1.heap.size (v := .slice (some ⟨X1.heap.size + 1, 0, none⟩) 0 0) (u := .slice pt ts.length capt) (by rfl) (by rfl) HBA.out.1 HBA.out.2.1 (HLen.out ts) (HOne.out ts) HLt.out HBA.out.2.2.1.size ?_
         intro y1 w1 ho1 hg1 ha1
         obtain ⟨p4, c4, rfl, HW1, HW2, HW3, fz0, fz1, fz2, fz3, ux0, ux1, ux2, ux3, HFin, HRw⟩ := HRHBA.out y1 w1 ho1 hg1
         clear ho1 hg1 ha1))
    all_goals
      go_wp2_with fail
      go_meet
      exact ⟨_, p4, c4, rfl, HFin, HRw⟩
  case rest =>
    obtain ⟨bx, q, c, rfl, HM, HRow⟩ := hcut
    generalize wc = wx at *
    go_wp2_with fail
    go_loopw [7] (fun iv wr => ∃ (k : Nat) (L : List Tab) (q : Option Addr) (c : Nat), k ≤ 1 ∧ iv = .int .i64 (k : Int) ∧ Hid (ApN w X0.heap.size bx (.slice q L.length c) wr) ∧ Hid (wr.ownsRow w.heap.size 49 5 (.slice q L.length c) L.length (cellsTs L)) ∧ Hid ((k = 0 ∧ L = ts) ∨ (k = 1 ∧ L.Perm (R ++ adds)))) (fun iv _ => 1 - (intOf iv).toNat)
    case atStart => exact ⟨0, ts, q, c, by omega, rfl, HM, HRow, Lib.hid (.inl ⟨rfl, rfl⟩)⟩
    case round =>
      clear HM HRow v0 v1 v2 v3
      obtain ⟨k, L, q, c, hk, rfl, HM, HRow, HL⟩ := hrel
      generalize wr = wz at *
      by_cases hlt : k < 1
      · have d1 : decide ((k : Int) < 1) = true := decide_eq_true (by omega)
        obtain ⟨rfl, rfl⟩ : k = 0 ∧ L = ts := by
          rcases HL.out with h | h
          · exact h
          · omega
        have hew := (HM.out.bel.block _ (block_lt HEb.out)).trans HEb.out
        have e0 := cell_of (i := 0) hew rfl
        have e1 := cell_of (i := 1) hew rfl
        have e2 := cell_of (i := 2) hew rfl
        have e3 := cell_of (i := 3) hew rfl
        have e4 := cell_of (i := 4) hew rfl
        have o0 := cell_of (i := 0) HM.out.ob rfl
        have o1 := cell_of (i := 1) HM.out.ob rfl
        have o2 := cell_of (i := 2) HM.out.ob rfl
        have o3 := cell_of (i := 3) HM.out.ob rfl
        have HTw : Hid (TsM wz (fun _ => True) (.slice q L.length c) L) := Lib.hid (Cl.of_own HRow.out (by omega) (fun _ _ => trivial) (cellsTs_len _))
        clear hew HL
        go_upto_region 6 with (fail)
        go_cut [8] (fun a wx => a = .int .i64 0 ∧ ∃ (L6 : List Tab) (q6 : Option Addr) (c6 : Nat), Hid (ApN w X0.heap.size bx (.slice q6 L6.length c6) wx) ∧ Hid (wx.ownsRow w.heap.size 49 5 (.slice q6 L6.length c6) L6.length (cellsTs L6)) ∧ Hid (L6.Perm (R ++ adds)))
        case first =>
          have HD1 : Hid (Below wz.heap.size wz wz.drew) := Lib.hid (below_drew (Below.refl _ _))
          go_region_with
            (go_at_call 24
             refine (HOn.out wz.drew _ _ (HM.out.bel.trans (HD1.out.mono HM.out.bel.size)) (HTw.out.below HD1.out)).mono ?_
             rintro r w6 ⟨L6, q6, c6, hp6, rfl, hrow6, hb6⟩
             have hM6 := HM.out.after (HD1.out.trans (hb6.mono HD1.out.size))
             have f0 := frozen_of (i := 0) hM6.ob
             have f1 := frozen_of (i := 1) hM6.ob
             have f2 := frozen_of (i := 2) hM6.ob
             have f3 := frozen_of (i := 3) hM6.ob
             have u0 := cell_of (i := 0) hM6.ob rfl
             have u1 := cell_of (i := 1) hM6.ob rfl
             have u2 := cell_of (i := 2) hM6.ob rfl
             have u3 := cell_of (i := 3) hM6.ob rfl
             have HFin := Lib.hid (hM6.set (.slice q6 L6.length c6))
             have HRw : Hid ((set4 w6 bx (.slice q6 L6.length c6) (.int .u64 0) (.int .i64 0) (.int .i64 0)).ownsRow w.heap.size 49 5 (.slice q6 L6.length c6) L6.length (cellsTs L6)) := Lib.hid (row_base (row_keep hrow6 fun j hj => (set4_fr _ bx _ _ _ _ (fun k => k = bx) rfl).block j (row_lt hrow6 j hj) (fun e => by
               obtain ⟨cur, hc⟩ := row_heap hrow6 hj
               exact kind_ne hc hM6.ob (by decide) e)) (Nat.le_trans HM.out.bel.size HD1.out.size))
             have HP6 := Lib.hid hp6
             clear hp6 hrow6 hb6 hM6)
          all_goals
            go_wp2_with fail
            go_meet
            exact ⟨rfl, L6, q6, c6, HFin, HRw, HP6⟩
        case rest =>
          obtain ⟨rfl, L6, q6, c6, HM6, HR6, HP6⟩ := hcut
          generalize wc = wy at *
          clear e0 e1 e2 e3 e4 o0 o1 o2 o3
          go_wp2_with fail
          go_roundw
          case rel => exact ⟨1, L6, q6, c6, by omega, by go_num, HM6, HR6, Lib.hid (.inr ⟨rfl, HP6.out⟩)⟩
          case measure => simp [intOf]
      · obtain rfl : k = 1 := by omega
        have HP : Hid (L.Perm (R ++ adds)) := Lib.hid (by
          rcases HL.out with ⟨h, _⟩ | ⟨_, h⟩
          · omega
          · exact h)
        have o0 := cell_of (i := 0) HM.out.ob rfl
        have o1 := cell_of (i := 1) HM.out.ob rfl
        have o2 := cell_of (i := 2) HM.out.ob rfl
        have o3 := cell_of (i := 3) HM.out.ob rfl
        have g0 := frozen_of (i := 0) HM.out.rb
        have g1 := frozen_of (i := 1) HM.out.rb
        have g2 := frozen_of (i := 2) HM.out.rb
        have g3 := frozen_of (i := 3) HM.out.rb
        have c0 := cell_of (i := 0) HM.out.rb rfl
        have c1 := cell_of (i := 1) HM.out.rb rfl
        have c2 := cell_of (i := 2) HM.out.rb rfl
        have c3 := cell_of (i := 3) HM.out.rb rfl
        have hfr := set4_fr wz X0.heap.size (.slice q L.length c) (.int .u64 0) (.int .i64 0) (.int .i64 0) (fun k => k = X0.heap.size) rfl
        have HV := Lib.hid (set4_heap HM.out.rb (.slice q L.length c) (.int .u64 0) (.int .i64 0) (.int .i64 0))
        have HVb := Lib.hid (HM.out.bel.trans (hfr.below HM.out.bel.size (fun k hk e => by have := HM.out.n1; omega)))
        have HVr := Lib.hid (row_keep HRow.out fun j hj => hfr.block j (row_lt HRow.out j hj) (fun e => by
          obtain ⟨cur, hc⟩ := row_heap HRow.out hj
          exact kind_ne hc HM.out.rb (by decide) e))
        clear hfr HL hlt
        go_wp2_with fail
        refine bodyPost_ret (v := .tuple #[.agg #[.slice q L.length c, .int .u64 0, .int .i64 0, .int .i64 0], .int .i64 0]) (results_ver2 rfl _ _ X0.heap.size _ _ rfl rfl HV.out rfl) rfl ?_
        exact ⟨L, q, c, HP.out, rfl, HVr.out, HVb.out⟩
end Go.Proofs.Yteclnnjijfbfoaa

/-
  A map from numbers to versions in memory: looked up, laid into; rows of slices of versions in the making.
-/
namespace Go.Proofs.Yteclnnjijfbfoaa
open Go.RowKit Go.MapKept

section
variable {w : World} {F : Nat → Prop} {v : Value} {n mb c : Nat} {xs : List Value} {l : List UInt8} {es : Array MapEntry}
/-- What is told lies in no block that holds a map. -/
theorem Cl.off (h : Cl w F v n xs) (hm : w.heap[mb]? = some (.map es c)) : Cl w (fun k => k ≠ mb) v n xs := by
  obtain ⟨p, cap, e, h1, h2, h3, h4, h5⟩ := h
  refine ⟨p, cap, e, h1, h2, h3, h4, fun j x hx => ?_⟩
  obtain ⟨b, off, e2, hb, _, hc⟩ := h5 j x hx
  refine ⟨b, off, e2, hb, fun hbm => ?_, hc⟩
  subst hbm
  simp [World.cell?, hm] at hc
theorem By.off (h : By w F v l) (hm : w.heap[mb]? = some (.map es c)) : By w (fun k => k ≠ mb) v l := Cl.off h hm
theorem En.off {l : List Ent} (h : En w F v l) (hm : w.heap[mb]? = some (.map es c)) : En w (fun k => k ≠ mb) v l := by
  obtain ⟨us, h⟩ := h
  exact ⟨us, h.len, h.cl.off hm, fun k e u h1 h2 => (h.val k e u h1 h2).off hm⟩
end

/-- A number, its versions, the slice of these. -/
abbrev Fe := Int × List Ent × Value
def entF : Nat → List Fe → List MapEntry
  | _, [] => []
  | i, p :: r => { key := .int .i64 p.1, val := p.2.2, born := i } :: entF (i + 1) r
def idxF : List Fe → Int → Option (Nat × Fe)
  | [], _ => none
  | p :: r, f => if p.1 == f then some (0, p) else (idxF r f).map fun q => (q.1 + 1, q.2)
def FmM (m : List Fe) (f : Int) : List Ent := match idxF m f with
  | some q => q.2.2.1
  | none => []
def valF (m : List Fe) (f : Int) : Value := match idxF m f with
  | some q => q.2.2.2
  | none => .slice none 0 0
theorem find_entF (f : Int) : ∀ (m : List Fe) (i j : Nat), Instr.findNow (.int .i64) (.int .i64 f) (entF i m) j = some ((idxF m f).map fun q => (j + q.1, q.2.2.2))
  | [], i, j => rfl
  | p :: r, i, j => by
    have ih := find_entF f r (i + 1) (j + 1)
    have hs : Instr.sameNow (.int .i64) (.int .i64 f) (.int .i64 p.1) = some (f == p.1) := rfl
    have hc : (f == p.1) = (p.1 == f) := by
      rw [Bool.eq_iff_iff, beq_iff_eq, beq_iff_eq]
      exact eq_comm
    simp only [entF, Instr.findNow, hs, hc, idxF]
    rcases h : (p.1 == f) with _ | _
    · simp only [ih, Bool.false_eq_true, if_false]
      cases idxF r f <;> simp
      omega
    · simp
theorem idxF_mem : ∀ {m : List Fe} {f : Int} {q : Nat × Fe}, idxF m f = some q → q.2 ∈ m ∧ q.2.1 = f
  | [], f, q, h => by cases h
  | p :: r, f, q, h => by
    unfold idxF at h
    split at h
    · rename_i hk
      obtain rfl := Option.some.inj h
      exact ⟨by simp, by simpa using hk⟩
    · rcases e : idxF r f with _ | q'
      · rw [e] at h; cases h
      · rw [e] at h
        obtain rfl := Option.some.inj h
        obtain ⟨h1, h2⟩ := idxF_mem e
        exact ⟨List.mem_cons_of_mem _ h1, h2⟩
theorem idxF_none : ∀ {m : List Fe} {f : Int}, (∀ p ∈ m, p.1 ≠ f) → idxF m f = none
  | [], _, _ => rfl
  | p :: r, f, h => by
    unfold idxF
    rw [if_neg (by simpa using h p (.head _)), idxF_none fun q hq => h q (.tail _ hq)]
    rfl
theorem idxF_snoc : ∀ (m : List Fe) (x : Fe) (f : Int), (idxF (m ++ [x]) f).map Prod.snd = match idxF m f with | some q => some q.2 | none => if x.1 == f then some x else none
  | [], x, f => by
    simp only [List.nil_append, idxF]
    split <;> simp
  | p :: r, x, f => by
    have ih := idxF_snoc r x f
    simp only [List.cons_append, idxF]
    split
    · rfl
    · rw [Option.map_map]
      rcases e : idxF r f with _ | q
      · rw [e] at ih
        exact ih
      · rw [e] at ih
        exact ih
theorem FmM_at (m : List Fe) (f : Int) : FmM m f = match (idxF m f).map Prod.snd with | some x => x.2.1 | none => [] := by
  unfold FmM
  cases idxF m f <;> rfl
theorem FmM_old {m : List Fe} {x : Fe} {f : Int} (h : x.1 ≠ f) : FmM (m ++ [x]) f = FmM m f := by
  rw [FmM_at, FmM_at, idxF_snoc]
  rcases e : idxF m f with _ | q
  · rw [if_neg (by simpa using h)]
    rfl
  · rfl
theorem FmM_new {m : List Fe} {x : Fe} (h : ∀ p ∈ m, p.1 ≠ x.1) : FmM (m ++ [x]) x.1 = x.2.1 := by
  rw [FmM_at, idxF_snoc, idxF_none h]
  simp
theorem entF_len : ∀ (m : List Fe) (i : Nat), (entF i m).length = m.length
  | [], _ => rfl
  | p :: r, i => by simp [entF, entF_len r (i + 1)]
theorem entF_snoc : ∀ (m : List Fe) (i : Nat) (p : Fe), entF i (m ++ [p]) = entF i m ++ [{ key := .int .i64 p.1, val := p.2.2, born := i + m.length }]
  | [], i, p => by simp [entF]
  | q :: r, i, p => by
    simp [entF, entF_snoc r (i + 1) p]
    omega

structure MapF (W : World) (mb : Nat) (m : List Fe) : Prop where
  blk : W.heap[mb]? = some (.map (entF 0 m).toArray m.length)
  ens : ∀ p ∈ m, En W (fun k => k ≠ mb) p.2.2 p.2.1
theorem MapF.below {W W' : World} {mb : Nat} {m : List Fe} (h : MapF W mb m) (hb : Below W.heap.size W W') : MapF W' mb m :=
  ⟨(hb.block _ (Array.getElem?_eq_some_iff.1 h.blk).1).trans h.blk, fun p hp => (h.ens p hp).below hb⟩
theorem MapF.lt {W : World} {mb : Nat} {m : List Fe} (h : MapF W mb m) : mb < W.heap.size := (Array.getElem?_eq_some_iff.1 h.blk).1
theorem MapF.en {W : World} {mb : Nat} {m : List Fe} (h : MapF W mb m) (f : Int) : En W (fun k => k ≠ mb) (valF m f) (FmM m f) := by
  unfold valF FmM
  rcases e : idxF m f with _ | q
  · exact En.nil _ _
  · exact h.ens _ (idxF_mem e).1
theorem MapF.look {W : World} {mb : Nat} {m : List Fe} (h : MapF W mb m) (f : Int) :
    (Instr.lookup 45 (.map (some mb)) (.int .i64 f) false).run Try.prog W = .ok (valF m f) W := by
  have h1 : ∀ e, (Instr.checkKey e 10000 3 (.int .i64 f)).run Try.prog W = .ok () W := fun e => run_checkKey (n := 9999) Try.underlying3 (show IsKey (.int .i64) (.int .i64 _) by unfold IsKey; trivial) _
  have hf : Instr.findNow (.int .i64) (.int .i64 f) (entF 0 m) 0 = some ((idxF m f).map fun q => (0 + q.1, q.2.2.2)) := find_entF f m 0 0
  have h2 : (Instr.findKey 3 (.int .i64 f) (entF 0 m)).run Try.prog W = .ok _ W := run_findKey Try.underlying3 hf
  have h3 : (zeroValue 26).run Try.prog W = .ok (.slice none 0 0) W := Try.zeroValue26 W
  unfold valF
  rcases e : idxF m f with _ | q
  · rw [e] at h2
    simp [Instr.lookup, run_underlying Try.underlying45, getObj, Sem.run, h.blk, h1, h2, h3, Result.andThen]
  · rw [e] at h2
    simp [Instr.lookup, run_underlying Try.underlying45, getObj, Sem.run, h.blk, h1, h2, Result.andThen]
theorem MapF.put {W : World} {mb : Nat} {m : List Fe} (h : MapF W mb m) (f : Int) (l : List Ent) (u : Value) (hno : ∀ p ∈ m, p.1 ≠ f) (hu : En W (fun k => k ≠ mb) u l) :
    ∃ W', (Instr.mapUpdate 45 (.map (some mb)) (.int .i64 f) u).run Try.prog W = .ok () W' ∧ MapF W' mb (m ++ [(f, l, u)]) ∧ Fr (fun k => k = mb) W W' ∧ W'.heap.size = W.heap.size := by
  have hlt := h.lt
  have h1 : ∀ e, (Instr.checkKey e 10000 3 (.int .i64 f)).run Try.prog W = .ok () W := fun e => run_checkKey (n := 9999) Try.underlying3 (show IsKey (.int .i64) (.int .i64 _) by unfold IsKey; trivial) _
  have hf : Instr.findNow (.int .i64) (.int .i64 f) (entF 0 m) 0 = some ((idxF m f).map fun q => (0 + q.1, q.2.2.2)) := find_entF f m 0 0
  rw [idxF_none hno] at hf
  have h2 : (Instr.findKey 3 (.int .i64 f) (entF 0 m)).run Try.prog W = .ok _ W := run_findKey Try.underlying3 hf
  have hfr : Fr (fun k => k = mb) W (W.putObj mb (.map (entF 0 (m ++ [(f, l, u)])).toArray (m ++ [(f, l, u)]).length)) := ⟨rfl, rfl, rfl, by simp [World.putObj], fun k _ hk => World.putObj_heap_other hk⟩
  refine ⟨_, ?_, ⟨World.putObj_heap_same hlt, fun p hp => ?_⟩, hfr, by simp [World.putObj]⟩
  · simp [Instr.mapUpdate, run_underlying Try.underlying45, getObj, Sem.run, h.blk, h1, h2, Result.andThen, setObj, World.putObj, entF_snoc]
  · rcases List.mem_append.1 hp with hp | hp
    · exact (h.ens p hp).step hfr fun _ _ hk => hk
    · obtain rfl := List.mem_singleton.1 hp
      exact hu.step hfr fun _ _ hk => hk

/-- A row of slices of versions in the making. -/
def LsW (w0 : World) (G : Nat → Prop) (ls : List (List Ent)) (v : Value) (wr : World) : Prop :=
  ∃ us, us.length = ls.length ∧ wr.ownsRow w0.heap.size 26 1 v ls.length us ∧ (∀ x ∈ us, x.oneCell' = true) ∧ (∀ (k : Nat) (l : List Ent) (u : Value), ls[k]? = some l → us[k]? = some u → En w0 G u l) ∧ Below w0.heap.size w0 wr
theorem LsW.nil {w0 wr : World} {G : Nat → Prop} (hb : Below w0.heap.size w0 wr) : LsW w0 G [] (.slice none 0 0) wr :=
  ⟨[], rfl, World.ownsRow_nil _ _ _ _, fun _ h => (by cases h), fun k l u h => by simp at h, hb⟩
theorem LsW.after {w0 wr w' : World} {G : Nat → Prop} {ls : List (List Ent)} {v : Value} (h : LsW w0 G ls v wr) (hb : Below wr.heap.size wr w') : LsW w0 G ls v w' := by
  obtain ⟨us, h1, h2, h3, h4, h5⟩ := h
  exact ⟨us, h1, row_keep h2 fun j hj => hb.block j (row_lt h2 j hj), h3, h4, h5.trans (hb.mono h5.size)⟩
theorem LsW.els {w0 wr : World} {G : Nat → Prop} {ls : List (List Ent)} {v : Value} (h : LsW w0 G ls v wr) (hn : ls.length ≤ 1048576) : Els wr (fun _ => True) v ls := by
  obtain ⟨us, h1, h2, h3, h4, h5⟩ := h
  exact ⟨us, h1, Cl.of_own h2 (by omega) (fun _ _ => trivial) (by rw [h1, Nat.mul_one]), fun k l u e1 e2 => ((h4 k l u e1 e2).below h5).mono fun _ _ _ => trivial⟩
theorem LsW.form {w0 wr : World} {G : Nat → Prop} {ls : List (List Ent)} {v : Value} (h : LsW w0 G ls v wr) : ∃ p c, v = .slice p ls.length c := by
  obtain ⟨us, _, h2, _⟩ := h
  obtain ⟨p, c, e, _, _⟩ := row_shape h2
  exact ⟨p, c, e⟩
end Go.Proofs.Yteclnnjijfbfoaa

/-
  The walk over compact.Run of right lists, of up to two hundred.
-/
namespace Go.Proofs.Yteclnnjijfbfoaa
open Go.RowKit

set_option maxRecDepth 100000 in
set_option maxHeartbeats 2000000 in
theorem run_wide (w : World) (F : Nat → Prop) (v : Value) (ls : List (List Ent)) (keep : Nat) (bot : Bool) (size : Int) (h : Els w F v ls) (hr : ∀ l ∈ ls, rightE l = true) (hfit : ∀ l ∈ ls, ∀ x ∈ l, FitE x) (hfew : ls.length ≤ 200) (hM : ∀ l ∈ ls, l.length ≤ 300) (h1 : 1 ≤ size) :
    Calls Try.prog 8 #[.int .u64 (keep : Int), .bool bot, .int .i64 size, v] w fun x w' => ∃ (ps : List (List Ent)) (pv : Option Addr) (cv : Nat), x = .returned (.tuple #[.slice pv ps.length cv, .int .i64 0]) ∧ PrtS (prnE (mrgL ls) keep bot) (prnE (mrgL ls) keep bot).length ps ∧ Els w' (fun _ => True) (.slice pv ps.length cv) ps ∧ Below w.heap.size w w' := by
  have HM := Lib.hid (mg_merge w F v ls h hfit (by omega) 300 hM (by omega))
  have hR := mrgL_right hr
  have hmf := mrgL_fit (fun l hl => (rightE_iff.1 (hr l hl)).2) hfit
  have hml : (mrgL ls).length ≤ 60000 := by
    have h3 := mrgL_len ls []
    have h4 := flat_le ls 300 hM
    have h5 : ls.length * 300 ≤ 200 * 300 := Nat.mul_le_mul_right _ hfew
    simp only [List.length_nil] at h3
    unfold mrgL
    omega
  have hPR : rightE (prnE (mrgL ls) keep bot) = true := right_sub hR (prn_sub _ _ _)
  have hPf : ∀ e ∈ prnE (mrgL ls) keep bot, FitE e := fun e he => hmf e ((prn_sub _ _ _).subset he)
  have hPl : (prnE (mrgL ls) keep bot).length ≤ 60000 := Nat.le_trans (prn_sub _ _ _).length_le hml
  obtain ⟨M, hMM⟩ : ∃ M, mrgL ls = M := ⟨_, rfl⟩
  rw [hMM] at HM hR hmf hml hPR hPf hPl ⊢
  have HP := Lib.hid (fun (W : World) (G : Nat → Prop) (u : Value) (hu : En W G u M) => mg_prune W G u M hu hR hmf (by omega) keep bot)
  obtain ⟨P, hPP⟩ : ∃ P, prnE M keep bot = P := ⟨_, rfl⟩
  rw [hPP] at HP hPR hPf hPl ⊢
  have HPa := Lib.hid (fun (W : World) (G : Nat → Prop) (u : Value) (hu : En W G u P) => parts_any W G u P size hu (rightE_iff.1 hPR).2 hPf (by omega))
  have HRt := Lib.hid hr
  have d1 : decide (size < 1) = false := decide_eq_false (by omega)
  clear h hr hfit hM hR hmf hml hPR hPf hMM hPP
  go_enter Try.func8, Try.ntmps8
  go_wp2_with fail
  refine HM.out.mono ?_
  rintro x w1 ⟨hb1, h2⟩
  rcases h2 with ⟨_, u, rfl, hu⟩ | ⟨⟨l, hl, hl2⟩, _⟩
  · have HB1 := Lib.hid hb1
    have HP1 := Lib.hid (HP.out w1 _ u hu)
    clear hb1 hu HM HP
    go_wp2_with fail
    refine HP1.out.mono ?_
    rintro x w2 ⟨u2, rfl, hu2, hb2⟩
    have HB2 := Lib.hid (HB1.out.trans (hb2.mono HB1.out.size))
    have HP2 := Lib.hid (HPa.out w2 _ u2 hu2)
    clear hb2 hu2 HP1 HPa
    go_wp2_with fail
    refine HP2.out.mono ?_
    rintro x w3 ⟨ps, us, pv, cv, rfl, hps, hpw⟩
    have hpl := hps.len
    have hmem : ∀ p ∈ ps, p.length ≤ 1048576 := fun p hp => by
      have h3 := (List.sublist_flatten_of_mem hp).length_le
      rw [hps.flat, List.length_take] at h3
      omega
    have HE := Lib.hid ((hpw.els (by omega) hmem).mono (G := fun _ => True) fun _ _ => trivial)
    have HB3 := Lib.hid (HB2.out.trans (hpw.bel.mono HB2.out.size))
    have HPs := Lib.hid hps
    clear hps hpw hmem HP2
    go_wp2_with fail
    refine Go.bodyPost_ret (Go.results_tmp2 rfl _ _ _) rfl ?_
    exact ⟨ps, pv, cv, rfl, HPs.out, HE.out, HB3.out⟩
  · rw [HRt.out l hl] at hl2
    cases hl2
end Go.Proofs.Yteclnnjijfbfoaa

/-
  The walk over glacierlaw9.seen.
-/
namespace Go.Proofs.Yteclnnjijfbfoaa
open Go.RowKit

theorem entT_snoc (F : Int → List Ent) (ts : List Tab) (k : Nat) (h : k < ts.length) : entT F (ts.take (k + 1)) = entT F (ts.take k) ++ [F ts[k].file] := by
  unfold entT
  rw [take_snoc ts k _ (List.getElem?_eq_getElem h), List.map_append]
  rfl

set_option maxRecDepth 100000 in
set_option maxHeartbeats 4000000 in
theorem lseen_any (w : World) (F : Nat → Prop) (tv : Value) (ts : List Tab) (mb : Nat) (m : List Fe) (up : Nat) (ht : TsM w F tv ts) (hm : MapF w mb m) (hr : ∀ t ∈ ts, rightE (FmM m t.file) = true) (hl : ts.length ≤ 65536) (htot : (entT (FmM m) ts).flatten.length ≤ 1048576) :
    Calls Try.prog 15 #[.agg #[tv, .int .u64 0, .int .i64 0, .int .i64 0], .map (some mb), .int .u64 (up : Int)] w fun x w' => ∃ (u : Value) (b : Bool), x = .returned (.tuple #[u, .bool b]) ∧ En w' (fun _ => True) u (seenE (mrgL (entT (FmM m) ts)) up) ∧ Below w.heap.size w w' := by
  obtain ⟨p, cap, rfl, hlc, hl47, hcm, _⟩ := Cl.form ht
  have HT := Lib.hid ht
  have HMp := Lib.hid hm
  have HRt := Lib.hid hr
  have HTot := Lib.hid htot
  have hz := heap_alloc_new w (.cells #[.slice p ts.length cap, .int .u64 0, .int .i64 0, .int .i64 0] 44)
  obtain ⟨X, hX⟩ : ∃ X, w.alloc (.cells #[.slice p ts.length cap, .int .u64 0, .int .i64 0, .int .i64 0] 44) = X := ⟨_, rfl⟩
  have hbX : Below w.heap.size w X := by rw [← hX]; exact belowA _ _
  rw [hX] at hz
  have HX := Lib.hid (And.intro hbX hz)
  clear ht hm hr htot hz hbX
  go_enter Try.func15, Try.ntmps15
  go_wp2_with fail
  go_loopw [8, 9, 10] (fun lv nv iv wr => ∃ (k : Nat) (q : Option Addr) (c : Nat) (n : Int), k ≤ ts.length ∧ iv = .int .i64 (k : Int) ∧ nv = .int .i64 n ∧ lv = .slice q k c ∧ Hid (LsW w (fun k => k ≠ mb) (entT (FmM m) (ts.take k)) (.slice q k c) wr) ∧ Hid (wr.heap[w.heap.size]? = some (.cells #[.slice p ts.length cap, .int .u64 0, .int .i64 0, .int .i64 0] 44 (0, 0)))) (fun _ _ iv _ => ts.length - (intOf iv).toNat)
  case atStart => exact ⟨0, none, 0, 0, by omega, rfl, rfl, rfl, Lib.hid (LsW.nil HX.out.1), Lib.hid HX.out.2⟩
  case round =>
    obtain ⟨k, q, c, n, hk, rfl, rfl, rfl, HL, HBx⟩ := hrel
    generalize wr = wz at *
    have v0 := cell_of (i := 0) HBx.out rfl
    obtain ⟨us, hus, hrow, hone, hvals, hby⟩ := HL.out
    by_cases hlt : k < ts.length
    · have d1 : decide ((k : Int) < (ts.length : Int)) = true := decide_eq_true (by omega)
      obtain ⟨b1, off1, rfl, hbl, e0, e1, e2, e3, e4⟩ := (HT.out.below hby).at_ (List.getElem?_eq_getElem hlt)
      have HSn := Lib.hid (entT_snoc (FmM m) ts k hlt)
      obtain ⟨xf, hxf⟩ : ∃ f, ts[k].file = f := ⟨_, rfl⟩
      rw [hxf] at e0 HSn
      have hMw := HMp.out.below hby
      have hlk := hMw.look xf
      have hen := HMp.out.en xf
      obtain ⟨pv, cv, hvv, hvl, _, _, _⟩ := hen.form
      rw [hvv] at hlk hen
      have hbA : Below wz.heap.size wz (wz.alloc (.cells #[.slice pv (FmM m xf).length cv] 26)) := belowA _ _
      have hlen : (entT (FmM m) (ts.take k)).length = k := by unfold entT; rw [List.length_map, List.length_take]; omega
      have HRow : Hid ((wz.alloc (.cells #[.slice pv (FmM m xf).length cv] 26)).ownsRow w.heap.size 26 1 (.slice q k c) k us) := Lib.hid (by
        have h := row_keep hrow fun j hj => hbA.block j (row_lt hrow j hj)
        rwa [hlen] at h)
      have HNw : Hid (Cl (wz.alloc (.cells #[.slice pv (FmM m xf).length cv] 26)) (fun _ => True) (.slice (some ⟨wz.heap.size, 0, none⟩) 1 1) 1 [.slice pv (FmM m xf).length cv]) := Lib.hid (Cl.new wz (fun _ => True) 1 [.slice pv (FmM m xf).length cv] _ _ rfl (by omega) trivial)
      have HOne : Hid (∀ x ∈ [Value.slice pv (FmM m xf).length cv], x.oneCell' = true) := Lib.hid (fun x hx => by rw [List.mem_singleton.1 hx]; rfl)
      have HBA : Hid (Below w.heap.size w (wz.alloc (.cells #[.slice pv (FmM m xf).length cv] 26))) := Lib.hid (hby.trans (hbA.mono hby.size))
      have HPart : Hid (∀ (y3 : Value) (w3 : World), w3.ownsRow w.heap.size 26 1 y3 (k + 1) (us ++ [.slice pv (FmM m xf).length cv]) → (wz.alloc (.cells #[.slice pv (FmM m xf).length cv] 26)).grownBy w3 (Value.slice q k c).ownBlock →
          LsW w (fun k => k ≠ mb) (entT (FmM m) (ts.take (k + 1))) y3 w3 ∧ w3.heap[w.heap.size]? = some (.cells #[.slice (some ⟨b1, off1, none⟩) ts.length cap, .int .u64 0, .int .i64 0, .int .i64 0] 44 (0, 0)) ∧ MapF w3 mb m ∧ w3.cell? ⟨b1, off1 + k * 5, none⟩ = some (.int .i64 xf)) := Lib.hid (fun y3 w3 ho3 hg3 => by
        have hb3 : Below w.heap.size w w3 := HBA.out.grown (by exact hg3) HBA.out.size (row_low HRow.out)
        refine ⟨⟨us ++ [.slice pv (FmM m xf).length cv], ?_, ?_, ?_, ?_, hb3⟩, ?_, HMp.out.below hb3, ?_⟩
        · rw [List.length_append, hus, HSn.out, List.length_append]; rfl
        · rw [HSn.out, List.length_append, hlen]; exact ho3
        · intro x hx
          rcases List.mem_append.1 hx with h | h
          · exact hone x h
          · rw [List.mem_singleton.1 h]; rfl
        · intro j l u h1 h2
          rw [HSn.out] at h1
          by_cases hj : j < k
          · rw [List.getElem?_append_left (by omega)] at h1
            rw [List.getElem?_append_left (by omega)] at h2
            exact hvals j l u h1 h2
          · have hj2 : j = k := by
              have := (List.getElem?_eq_some_iff.1 h1).1
              rw [List.length_append, hlen] at this
              simp at this
              omega
            subst hj2
            rw [List.getElem?_append_right (by omega), hlen, Nat.sub_self] at h1
            rw [List.getElem?_append_right (by omega), hus, hlen, Nat.sub_self] at h2
            obtain rfl : FmM m xf = l := by simpa using h1
            obtain rfl : Value.slice pv (FmM m xf).length cv = u := by simpa using h2
            exact hen
        · refine (hg3.block _ (Nat.lt_of_lt_of_le (block_lt HBx.out) hbA.size) (fun e => ?_)).trans ((hbA.block _ (block_lt HBx.out)).trans HBx.out)
          obtain ⟨cur, hc⟩ := row_heap HRow.out e.symm
          exact kind_ne hc ((hbA.block _ (block_lt HBx.out)).trans HBx.out) (by decide) rfl
        · exact (below_cells hb3 b1 _ (show b1 < w.heap.size from by
            obtain ⟨b2, o2, h2, h3, _⟩ := HT.out.at_ (List.getElem?_eq_getElem hlt)
            obtain ⟨rfl, rfl⟩ : b1 = b2 ∧ off1 = o2 := by simpa using h2
            exact h3)).trans (by
            obtain ⟨b2, o2, h2, h3, h4, _⟩ := HT.out.at_ (List.getElem?_eq_getElem hlt)
            obtain ⟨rfl, rfl⟩ : b1 = b2 ∧ off1 = o2 := by simpa using h2
            rw [hxf] at h4
            exact h4))
      have hkl : k ≤ 65536 := by omega
      have HVv := Lib.hid hvv
      clear hus hrow hone hvals hby hMw hbA hlen hxf e1 e2 e3 e4 hbl hvl hvv hen
      go_wp2_with (at_builtin
                   refine slEns.wpList_append rfl (.tmp 22) (.tmp 31) rfl w.heap.size (v := .slice q k c) (u := .slice (some ⟨wz.heap.size, 0, none⟩) 1 1) rfl rfl HRow.out HNw.out rfl HOne.out (by omega) HBA.out.size ?_
                   intro y3 w3 ho3 hg3 ha3
                   obtain ⟨hl3, hx3, hm3, hc3⟩ := HPart.out y3 w3 ho3 hg3
                   obtain ⟨p3, c3, rfl, _, _⟩ := row_shape ho3
                   have v3 := cell_of (i := 0) hx3 rfl
                   have hk3 := hm3.look xf
                   rw [HVv.out] at hk3
                   have HL3 := Lib.hid hl3
                   have HX3 := Lib.hid hx3
                   clear ho3 hg3 ha3 hl3 hx3 hm3)
      go_roundw
      case rel => exact ⟨k + 1, p3, c3, _, by omega, by go_num, rfl, rfl, HL3, HX3⟩
      case measure => simp [intOf]; omega
    · obtain rfl : k = ts.length := by omega
      have d1 : decide ((ts.length : Int) < (ts.length : Int)) = false := by simp
      rw [List.take_length] at HL
      have hel : (entT (FmM m) ts).length = ts.length := by unfold entT; rw [List.length_map]
      have HEl := Lib.hid (HL.out.els (by omega))
      have hall : ∀ l ∈ entT (FmM m) ts, rightE l = true := fun l h => by
        obtain ⟨t, ht, rfl⟩ := List.mem_map.1 h
        exact HRt.out t ht
      have HMg := Lib.hid (r6_merge wz _ _ (entT (FmM m) ts) HEl.out HTot.out)
      have hMr := mrgL_right hall
      have hml : (mrgL (entT (FmM m) ts)).length ≤ 1048576 := by
        have h3 := mrgL_len (entT (FmM m) ts) []
        have h4 := HTot.out
        simp only [List.length_nil] at h3
        unfold mrgL
        omega
      have HAl := Lib.hid hall
      have HB0 := Lib.hid hby
      generalize hE : entT (FmM m) ts = E at *
      generalize hM : mrgL E = M at *
      have HEq := Lib.hid (And.intro hE hM)
      clear hE hM
      have HSe := Lib.hid (fun (V : World) (u : Value) (hu : En V (fun _ => True) u M) => r6_seen V _ u M hu hMr hml up)
      clear hus hrow hone hvals hby hel hall hMr hml HTot
      go_wp2_with fail
      refine HMg.out.mono ?_
      rintro x w7 ⟨hb7, ⟨_, um, rfl, hem⟩ | ⟨⟨l, hl, hl2⟩, _⟩⟩
      case inr => rw [HAl.out l hl] at hl2; cases hl2
      obtain ⟨pm, cm, rfl, _⟩ := hem.form
      have HS7 := Lib.hid (HSe.out w7 _ hem)
      have HB7 := Lib.hid (HB0.out.trans (hb7.mono HB0.out.size))
      clear hb7 hem HMg HSe
      go_wp2_with fail
      refine HS7.out.mono ?_
      rintro x w8 ⟨ua, rfl, hea, hb8⟩
      have HE8 := Lib.hid (hea.mono (G := fun _ => True) fun _ _ _ => trivial)
      have HB8 := Lib.hid (HB7.out.trans (hb8.mono HB7.out.size))
      clear hb8 hea
      go_wp2_with fail
      refine Go.bodyPost_ret (Go.results_tmp2 rfl _ _ _) rfl ?_
      rw [HEq.out.1, HEq.out.2]
      exact ⟨ua, _, rfl, HE8.out, HB8.out⟩
end Go.Proofs.Yteclnnjijfbfoaa

/-
  Tables compacted job by job, told plainly: what the law's loop keeps.
-/
namespace Go.Proofs.Yteclnnjijfbfoaa

structure LpI (F : Int → List Ent) (nx : Int) (ts : List Tab) (up : Nat) (S0 : List Ent) (i : Nat) : Prop where
  ph : (∀ t ∈ ts, t.level = 0) ∨ TreeT F nx ts
  good : ∀ t ∈ ts, GoodT F nx t
  nd : (filesT ts).Nodup
  cnt : szT (fun _ => 1) F ts ≤ 150
  wt : szT wtE F ts ≤ 2000000
  mu : muT F ts + i ≤ 1050
  n0 : 0 ≤ nx
  n1 : nx ≤ 12 + 150 * (i : Int)
  sn : seenE (mrgL (entT F ts)) up = S0
section
variable {F F' : Int → List Ent} {nx : Int} {ts ts' U : List Tab} {lv : Int} {ps : List (List Ent)} {keep up i : Nat} {bot : Bool} {P S0 : List Ent}
theorem sz_one {t : Tab} (ht : t ∈ ts) (f : Ent → Nat) : swE f (F t.file) ≤ szT f F ts := by
  obtain ⟨a, b, rfl⟩ := List.append_of_mem ht
  unfold szT
  rw [sm_app, sm_cons]
  omega
theorem sm_ones : ∀ l : List Tab, smT (fun _ => 1) l = l.length
  | [] => rfl
  | t :: r => by rw [sm_cons, sm_ones r, List.length_cons]; omega
theorem LpI.len (h : LpI F nx ts up S0 i) : ts.length ≤ 150 := by
  have h1 : smT (fun _ => 1) ts ≤ szT (fun _ => 1) F ts := sm_le fun t ht => by
    rw [← len_sw]
    exact List.length_pos_iff.2 (h.good t ht).ne
  rw [sm_ones] at h1
  have := h.cnt
  omega
theorem LpI.each (h : LpI F nx ts up S0 i) {t : Tab} (ht : t ∈ ts) : (F t.file).length ≤ 150 ∧ wE (F t.file) ≤ 2000000 := by
  have h1 := sz_one (F := F) ht (fun _ => 1)
  have h2 := sz_one (F := F) ht wtE
  rw [← len_sw] at h1
  rw [← wE_sw] at h2
  have := h.cnt
  have := h.wt
  omega
theorem LpI.wT (h : LpI F nx ts up S0 i) : wT ts ≤ 2000000 := by
  have h1 : Go.Proofs.Yteclnnjijfbfoaa.wT ts = szT wtE F ts := by
    show smT (fun t => t.size.toNat) ts = _
    refine sm_eq fun t ht => ?_
    rw [(h.good t ht).siz, ← wE_sw]
    omega
  rw [h1]
  exact h.wt
theorem LpI.flat (h : LpI F nx ts up S0 i) : (entT F ts).flatten.length ≤ 150 := by
  rw [len_sw, sw_flat, sm_ent]
  exact h.cnt
theorem LpI.fitT (h : LpI F nx ts up S0 i) : FitT ts := fun t ht => by
  have hg := h.good t ht
  have h0 := List.length_pos_iff.2 hg.ne
  rw [hg.fst, hg.lst, hdY_at h0, laY_at h0]
  have h1 := (hg.fit _ (List.getElem_mem h0)).key
  have h2 := (hg.fit _ (List.getElem_mem (by omega : (F t.file).length - 1 < (F t.file).length))).key
  omega
theorem LpI.size0 (h : LpI F nx ts up S0 i) : ∀ t ∈ ts, 0 ≤ t.size := fun t ht => by
  rw [(h.good t ht).siz]
  omega
theorem job_len (h : LpI F nx ts up S0 i) (hj : JobT F nx ts U lv) : U.length ≤ 150 := by
  have h1 := sm_sub (fun _ => 1) U ts hj.ndU hj.inn
  rw [sm_ones, sm_ones] at h1
  have := h.len
  omega
theorem job_P (h : LpI F nx ts up S0 i) (hj : JobT F nx ts U lv) (hP : P = prnE (mrgL (entT F U)) keep bot) : P.length ≤ 150 ∧ wE P ≤ 2000000 := by
  have h3 : ∀ f : Ent → Nat, swE f P ≤ szT f F ts := fun f => by
    have h1 := sw_sub f (prn_sub (mrgL (entT F U)) keep bot)
    have h2 := sw_mrg f (entT F U)
    rw [sm_ent] at h2
    have h3 := sm_sub (fun t => swE f (F t.file)) U ts hj.ndU hj.inn
    rw [← hP] at h1
    unfold szT
    omega
  have h4 := h3 (fun _ => 1)
  have h5 := h3 wtE
  rw [← len_sw] at h4
  rw [← wE_sw] at h5
  have := h.cnt
  have := h.wt
  omega
theorem LpI.step (h : LpI F nx ts up S0 i) (hj : JobT F nx ts U lv) (hP : P = prnE (mrgL (entT F U)) keep bot) (hps : PrtS P P.length ps) (hF1 : ∀ f, f < nx → F' f = F f) (hF2 : ∀ (k : Nat) (p : List Ent), ps[k]? = some p → F' (nx + (k : Int)) = p)
    (hp : ts'.Perm (restT ts U ++ nwT (lv + 1) nx ps)) (hku : keep ≤ up) : LpI F' (nx + (ps.length : Int)) ts' up S0 (i + 1) := by
  have hT := step_tree hj hP hps hF1 hF2 hp h.n0
  have hl := hps.len
  have hpl := (job_P h hj hP).1
  have hm := step_mu hj hP hps hF1 hF2 hp
  have h1 := step_size (fun _ => 1) hj hP hps hF1 hF2 hp
  have h2 := step_size wtE hj hP hps hF1 hF2 hp
  have h3 := h.cnt
  have h4 := h.wt
  have h5 := h.mu
  have h6 := h.n0
  have h7 := h.n1
  refine ⟨.inr hT, hT.good, hT.k.nd, by omega, by omega, by omega, by omega, ?_, ?_⟩
  · rw [Int.natCast_add]
    omega
  · rw [step_seen hj hP hps hF1 hF2 hp h.n0 hku, h.sn]
end
theorem TreeT.prt {F : Int → List Ent} {nx : Int} {l : List Tab} (h : TreeT F nx l) : PrtT l := fun i k hi hk => by
  have hf : l[i].file ≠ (l[k]'(by omega)).file := fun e => by
    have h1 := (List.pairwise_iff_getElem.1 h.k.nd) k i (by unfold filesT; rw [List.length_map]; omega) (by unfold filesT; rw [List.length_map]; omega) hk
    unfold filesT at h1
    rw [List.getElem_map, List.getElem_map] at h1
    exact h1 e.symm
  rcases hl : (l[i].level == (l[k]'(by omega)).level) with _ | _
  · simp
  · rcases h.part _ (List.getElem_mem hi) _ (List.getElem_mem (by omega)) hf (by simpa using hl) with h1 | h1
    · rw [not_leY.2 h1]; simp
    · rw [not_leY.2 h1]; simp
theorem PrtT.zero {l : List Tab} (h : ∀ t ∈ l, t.level = 0) : PrtT l := fun i k hi _ => by
  rw [h _ (List.getElem_mem hi)]
  simp
theorem GoodT.ok {F : Int → List Ent} {nx : Int} {t : Tab} (h : GoodT F nx t) (hn : nx ≤ 1099511627776) (hw : wE (F t.file) ≤ 2000000) : OkAdd t := by
  have h1 := h.f0
  have h2 := h.fn
  have h3 := h.siz
  refine ⟨h1, by omega, h.lv0, h.lv6, ?_, by omega, by omega⟩
  rw [h.fst, h.lst]
  exact hd_la h.srt h.ne
theorem st_one (t : Tab) : stS t [t] = (t.first, t.last) := by
  have h1 : minY t.first t.first = t.first := by
    unfold minY Lib.minS
    split <;> simp
  have h2 : maxY t.last t.last = t.last := by
    unfold maxY Lib.maxS
    split <;> simp
  show (minY t.first t.first, maxY t.last t.last) = _
  rw [h1, h2]
theorem lvT_mem {lv : Int} {l : List Tab} {t : Tab} : t ∈ lvT lv l ↔ t ∈ l ∧ t.level = lv := by
  unfold lvT
  rw [List.mem_filter, beq_iff_eq]
section
variable {F : Int → List Ent} {nx : Int} {ts : List Tab} {up i : Nat} {S0 : List Ent}
theorem job_zero (h : LpI F nx ts up S0 i) {t0 : Tab} (h0 : (lvT 0 ts)[0]? = some t0) (s : List UInt8 × List UInt8) : lvT 0 ts ++ ovT (0 + 1) s ts = ts ∧ JobT F nx ts ts 0 := by
  have hm := lvT_mem.1 (List.mem_of_getElem? h0)
  rcases h.ph with h1 | h1
  · have h2 : lvT 0 ts = ts := by
      unfold lvT
      rw [List.filter_eq_self]
      intro t ht
      rw [h1 t ht]
      rfl
    have h3 : ovT (0 + 1) s ts = [] := by
      rw [List.eq_nil_iff_forall_not_mem]
      intro t ht
      have h4 := mem_ovT.1 ht
      have h5 := h1 t h4.1
      omega
    exact ⟨by rw [h2, h3, List.append_nil], job_all h.good h.nd h1 (fun e => by rw [e] at hm; cases hm.1)⟩
  · have := h1.lv1 t0 hm.1
    omega
theorem job_below (h : LpI F nx ts up S0 i) {t : Tab} {b : Nat} (hv : HvP b ts t) (h1 : 1 ≤ t.level) (h5 : t.level ≤ 5) : JobT F nx ts ([t] ++ ovT (t.level + 1) (stS t [t]) ts) t.level := by
  rcases hv with ⟨m, h2, h3, _, h4, he⟩ | ⟨_, he⟩
  · have hm : t ∈ ts := by
      have h6 := grT_mem (l := lvT (m : Int) ts) (by omega)
      rw [← he] at h6
      exact (lvT_mem.1 h6).1
    rw [st_one]
    rcases h.ph with h7 | h7
    · have := h7 t hm
      omega
    · exact job_tree h7 hm h5
  · rw [he] at h1
    exact absurd h1 (by decide)
end
end Go.Proofs.Yteclnnjijfbfoaa

/-
  What glacierlaw9.CompactAll goes on with: in memory, and plainly in its first loop.
-/
namespace Go.Proofs.Yteclnnjijfbfoaa
open Go.RowKit

section
variable {w : World} {F G : Nat → Prop} {v : Value} {n : Nat} {xs : List Value}
theorem Cl.and (h : Cl w F v n xs) (h' : Cl w G v n xs) : Cl w (fun k => F k ∧ G k) v n xs := by
  obtain ⟨p, cap, rfl, h1, h2, h3, h4, h5⟩ := h
  refine ⟨p, cap, rfl, h1, h2, h3, h4, fun j x hx => ?_⟩
  obtain ⟨b, off, rfl, hb, hF, hc⟩ := h5 j x hx
  obtain ⟨b', off', e, _, hG, _⟩ := Cl.at_ h' hx
  obtain ⟨rfl, rfl⟩ : b = b' ∧ off = off' := by simpa using e
  exact ⟨b, off, rfl, hb, ⟨hF, hG⟩, hc⟩
/-- A slice whose first cell is nowhere in a block lies not in it. -/
theorem Cl.offc (h : Cl w F v n xs) {vb : Nat} (h0 : ∀ x, xs[0]? = some x → ∀ o, w.cell? ⟨vb, o, none⟩ ≠ some x) : Cl w (fun k => k ≠ vb) v n xs := by
  obtain ⟨p, cap, rfl, h1, h2, h3, h4, h5⟩ := h
  refine ⟨p, cap, rfl, h1, h2, h3, h4, fun j x hx => ?_⟩
  obtain ⟨b, off, rfl, hb, hF, hc⟩ := h5 j x hx
  refine ⟨b, off, rfl, hb, fun hbv => ?_, hc⟩
  subst hbv
  have hl : 0 < xs.length := by
    have := (List.getElem?_eq_some_iff.1 hx).1
    omega
  obtain ⟨b', off', e, _, _, hc0⟩ := h5 0 _ (List.getElem?_eq_getElem hl)
  obtain ⟨rfl, rfl⟩ : b = b' ∧ off = off' := by simpa using e
  exact h0 _ (List.getElem?_eq_getElem hl) _ hc0
end
theorem ver_cell {w : World} {vb : Nat} {p : Option Addr} {n c : Nat} {T : TypeId} {fz : Nat × Nat} (h : w.heap[vb]? = some (.cells #[.slice p n c, .int .u64 0, .int .i64 0, .int .i64 0] T fz)) {o : Nat} {x : Value} (hx : w.cell? ⟨vb, o, none⟩ = some x) : x = .slice p n c ∨ x = .int .u64 0 ∨ x = .int .i64 0 := by
  simp [World.cell?, h] at hx
  match o with
  | 0 => simp at hx; exact .inl hx.symm
  | 1 => simp at hx; exact .inr (.inl hx.symm)
  | 2 => simp at hx; exact .inr (.inr hx.symm)
  | 3 => simp at hx; exact .inr (.inr hx.symm)
  | o + 4 => simp at hx
theorem En.off2 {w : World} {F : Nat → Prop} {u : Value} {l : List Ent} (h : En w F u l) {vb mb : Nat} {p : Option Addr} {n c cl : Nat} {T : TypeId} {fz : Nat × Nat} {es : Array MapEntry} (hm : w.heap[mb]? = some (.map es cl)) (hv : w.heap[vb]? = some (.cells #[.slice p n c, .int .u64 0, .int .i64 0, .int .i64 0] T fz)) : En w (fun k => k ≠ mb ∧ k ≠ vb) u l := by
  obtain ⟨us, h⟩ := h
  refine ⟨us, h.len, (h.cl.off hm).and (h.cl.offc fun x hx o hc => ?_), fun k e v h1 h2 => Cl.and (Cl.off (h.val k e v h1 h2) hm) (Cl.offc (h.val k e v h1 h2) fun x hx o hc => ?_)⟩
  · match l, us, h.len, hx with
    | [], _, _, hx => simp [cellsE] at hx
    | e :: r, [], hl, _ => simp at hl
    | e :: r, u1 :: ur, _, hx =>
      have hx' : Value.string ⟨e.key.toArray⟩ = x := by simpa [cellsE] using hx
      subst hx'
      rcases ver_cell hv hc with h1 | h1 | h1 <;> cases h1
  · have hx' : ∃ y : UInt8, x = .int .u8 (y.toNat : Int) := by
      obtain ⟨y, _, rfl⟩ := List.mem_map.1 (List.mem_of_getElem? hx)
      exact ⟨y, rfl⟩
    obtain ⟨y, rfl⟩ := hx'
    rcases ver_cell hv hc with h1 | h1 | h1 <;> cases h1

/-- What the law goes on with. -/
structure LwN (w : World) (vb mb : Nat) (z b t : Int) (p : Option Addr) (c : Nat) (ts : List Tab) (m : List Fe) (wr : World) : Prop where
  vx : wr.heap[vb]? = some (.cells #[.slice p ts.length c, .int .u64 0, .int .i64 0, .int .i64 0] 44 (0, 0))
  sx : wr.heap[w.heap.size]? = some (.cells #[.int .i64 z, .int .i64 b, .int .i64 t] 40 (0, 0))
  blk : wr.heap[mb]? = some (.map (entF 0 m).toArray m.length)
  ens : ∀ q ∈ m, En wr (fun k => k ≠ mb ∧ k ≠ vb) q.2.2 q.2.1
  row : wr.ownsRow w.heap.size 49 5 (.slice p ts.length c) ts.length (cellsTs ts)
  bel : Below w.heap.size w wr
  nv : w.heap.size < vb
  nm : w.heap.size < mb
section
variable {w wr w' : World} {vb mb : Nat} {z b t : Int} {p : Option Addr} {c : Nat} {ts : List Tab} {m : List Fe}
theorem LwN.ne (h : LwN w vb mb z b t p c ts m wr) : mb ≠ vb := fun e => by
  have h1 := h.blk
  rw [e, h.vx] at h1
  cases h1
theorem LwN.after (h : LwN w vb mb z b t p c ts m wr) (hb : Below wr.heap.size wr w') : LwN w vb mb z b t p c ts m w' :=
  ⟨(hb.block _ (block_lt h.vx)).trans h.vx, (hb.block _ (block_lt h.sx)).trans h.sx, (hb.block _ (Array.getElem?_eq_some_iff.1 h.blk).1).trans h.blk, fun q hq => (h.ens q hq).below hb, row_keep h.row fun j hj => hb.block j (row_lt h.row j hj), h.bel.trans (hb.mono h.bel.size), h.nv, h.nm⟩
theorem LwN.mapF (h : LwN w vb mb z b t p c ts m wr) : MapF wr mb m := ⟨h.blk, fun q hq => (h.ens q hq).mono fun _ _ hk => hk.1⟩
theorem LwN.tsm (h : LwN w vb mb z b t p c ts m wr) (hl : ts.length ≤ 65536) : TsM wr (fun k => k < wr.heap.size) (.slice p ts.length c) ts := Cl.of_own h.row (by omega) (fun j hj => row_lt h.row j hj) (cellsTs_len _)
theorem LwN.en (h : LwN w vb mb z b t p c ts m wr) {F : Nat → Prop} {u : Value} {l : List Ent} (hu : En wr F u l) : En wr (fun k => k ≠ mb ∧ k ≠ vb) u l := hu.off2 h.blk h.vx
theorem LwN.put (h : LwN w vb mb z b t p c ts m wr) (f : Int) (l : List Ent) (u : Value) (hno : ∀ q ∈ m, q.1 ≠ f) (hu : En wr (fun k => k ≠ mb ∧ k ≠ vb) u l) :
    ∃ W', (Instr.mapUpdate 45 (.map (some mb)) (.int .i64 f) u).run Try.prog wr = .ok () W' ∧ LwN w vb mb z b t p c ts (m ++ [(f, l, u)]) W' ∧ Fr (fun k => k = mb) wr W' ∧ W'.heap.size = wr.heap.size := by
  obtain ⟨W', h1, h2, h3, h4⟩ := h.mapF.put f l u hno (hu.mono fun _ _ hk => hk.1)
  refine ⟨W', h1, ⟨(h3.block _ (block_lt h.vx) h.ne.symm).trans h.vx, (h3.block _ (block_lt h.sx) (by have := h.nm; omega)).trans h.sx, h2.blk, fun q hq => ?_, row_keep h.row fun j hj => h3.block j (row_lt h.row j hj) (fun e => ?_), h.bel.trans (h3.below h.bel.size (fun k hk e => by have := h.nm; omega)), h.nv, h.nm⟩, h3, h4⟩
  · rcases List.mem_append.1 hq with hq | hq
    · exact (h.ens q hq).step h3 fun _ _ hk => hk.1
    · obtain rfl := List.mem_singleton.1 hq
      exact hu.step h3 fun _ _ hk => hk.1
  · obtain ⟨cur, hc⟩ := row_heap h.row hj
    rw [e, h.blk] at hc
    cases hc
theorem LwN.setV (h : LwN w vb mb z b t p c ts m wr) {p' : Option Addr} {c' : Nat} {ts' : List Tab} (hr : wr.ownsRow w.heap.size 49 5 (.slice p' ts'.length c') ts'.length (cellsTs ts')) :
    LwN w vb mb z b t p' c' ts' m (set4 wr vb (.slice p' ts'.length c') (.int .u64 0) (.int .i64 0) (.int .i64 0)) ∧ Fr (fun k => k = vb) wr (set4 wr vb (.slice p' ts'.length c') (.int .u64 0) (.int .i64 0) (.int .i64 0)) := by
  have hf := set4_fr wr vb (.slice p' ts'.length c') (.int .u64 0) (.int .i64 0) (.int .i64 0) (fun k => k = vb) rfl
  refine ⟨⟨set4_heap h.vx _ _ _ _, (hf.block _ (block_lt h.sx) (by have := h.nv; omega)).trans h.sx, (hf.block _ (Array.getElem?_eq_some_iff.1 h.blk).1 h.ne).trans h.blk, fun q hq => (h.ens q hq).step hf fun _ _ hk => hk.2, row_keep hr fun j hj => hf.block j (row_lt hr j hj) (fun e => ?_), h.bel.trans (hf.below h.bel.size (fun k hk e => by have := h.nv; omega)), h.nv, h.nm⟩, hf⟩
  obtain ⟨cur, hc⟩ := row_heap hr hj
  exact kind_ne hc h.vx (by decide) e
end

/-! ### the first loop, plainly -/
structure IniI (m : List Fe) (ts : List Tab) (k tot : Nat) : Prop where
  good : ∀ t ∈ ts, GoodT (FmM m) (k : Int) t
  nd : (filesT ts).Nodup
  l0 : ∀ t ∈ ts, t.level = 0
  keys : ∀ p ∈ m, 0 ≤ p.1 ∧ p.1 < (k : Int)
  cnt : szT (fun _ => 1) (FmM m) ts ≤ tot
  wt : szT wtE (FmM m) ts ≤ 133000 * k
theorem IniI.zero : IniI [] [] 0 0 := ⟨fun t h => (by cases h), List.nodup_nil, fun t h => (by cases h), fun p h => (by cases h), by simp [szT, smT], by simp [szT, smT]⟩
theorem IniI.skip {m : List Fe} {ts : List Tab} {k tot : Nat} (h : IniI m ts k tot) : IniI m ts (k + 1) tot :=
  ⟨fun t ht => (h.good t ht).of rfl (by omega), h.nd, h.l0, fun p hp => by have := h.keys p hp; omega, h.cnt, by have := h.wt; omega⟩
theorem IniI.put {m : List Fe} {ts ts' : List Tab} {k tot : Nat} (h : IniI m ts k tot) (l : List Ent) (u : Value) (hr : rightE l = true) (hf : ∀ x ∈ l, FitE x) (hn : l ≠ []) (hl : l.length ≤ 60) (hb : bulkE l ≤ 131072) (hp : ts'.Perm (ts ++ [⟨(k : Int), 0, hdY l, laY l, (wE l : Int)⟩])) :
    IniI (m ++ [((k : Int), l, u)]) ts' (k + 1) (tot + l.length) := by
  have hno : ∀ p ∈ m, p.1 ≠ (k : Int) := fun p hp => by have := h.keys p hp; omega
  have hnew : FmM (m ++ [((k : Int), l, u)]) (k : Int) = l := FmM_new (x := ((k : Int), l, u)) hno
  have hold : ∀ t ∈ ts, FmM (m ++ [((k : Int), l, u)]) t.file = FmM m t.file := fun t ht => FmM_old (by have := (h.good t ht).fn; show (k : Int) ≠ t.file; omega)
  have hmem : ∀ t, t ∈ ts' ↔ t ∈ ts ∨ t = ⟨(k : Int), 0, hdY l, laY l, (wE l : Int)⟩ := fun t => by rw [hp.mem_iff, List.mem_append, List.mem_singleton]
  have hsz : ∀ f : Ent → Nat, szT f (FmM (m ++ [((k : Int), l, u)])) ts' = szT f (FmM m) ts + swE f l := fun f => by
    unfold szT
    rw [sm_perm _ hp, sm_app, sm_cons, sm_eq (g := fun t => swE f (FmM m t.file)) fun t ht => by rw [hold t ht]]
    show _ + (swE f (FmM _ (k : Int)) + 0) = _
    rw [hnew]
    omega
  refine ⟨fun t ht => ?_, ?_, fun t ht => ?_, fun p hq => ?_, ?_, ?_⟩
  · rcases (hmem t).1 ht with h1 | rfl
    · exact (h.good t h1).of (hold t h1) (by omega)
    · refine ⟨?_, ?_, ?_, ?_, ?_, ?_, ?_, ?_, ?_, ?_⟩ <;> simp only [hnew]
      · exact hr
      · exact hf
      · exact hn
      · omega
      · omega
      · omega
      · omega
  · have h1 : (filesT ts').Perm (filesT (ts ++ [⟨(k : Int), 0, hdY l, laY l, (wE l : Int)⟩])) := hp.map _
    rw [h1.nodup_iff]
    unfold filesT
    rw [List.map_append, List.nodup_append]
    refine ⟨h.nd, by simp, fun a ha b hb e => ?_⟩
    obtain ⟨t, ht, rfl⟩ := List.mem_map.1 ha
    have h2 : b = (k : Int) := by simpa using hb
    have h3 := (h.good t ht).fn
    omega
  · rcases (hmem t).1 ht with h1 | rfl
    · exact h.l0 t h1
    · rfl
  · rcases List.mem_append.1 hq with h1 | h1
    · have := h.keys p h1
      omega
    · obtain rfl := List.mem_singleton.1 h1
      constructor
      · show (0 : Int) ≤ (k : Int)
        omega
      · show (k : Int) < ((k + 1 : Nat) : Int)
        omega
  · rw [hsz, ← len_sw]
    have := h.cnt
    omega
  · rw [hsz, ← wE_sw, wE_bulk]
    have := h.wt
    omega
theorem IniI.lp {m : List Fe} {ts : List Tab} {k tot : Nat} (h : IniI m ts k tot) (hk : k ≤ 12) (ht : tot ≤ 150) (up : Nat) : LpI (FmM m) (k : Int) ts up (seenE (mrgL (entT (FmM m) ts)) up) 0 := by
  have h1 := h.cnt
  have h2 := h.wt
  refine ⟨.inl h.l0, h.good, h.nd, by omega, by omega, ?_, by omega, by omega, rfl⟩
  have h3 : muT (FmM m) ts ≤ smT (fun t => (FmM m t.file).length * 7) ts := sm_le fun t _ => Nat.mul_le_mul_left _ (by
    have := (h.good t ‹_›).lv0
    omega)
  rw [sm_mul] at h3
  have h4 : smT (fun t => (FmM m t.file).length) ts = szT (fun _ => 1) (FmM m) ts := sm_eq fun t _ => len_sw _
  rw [h4] at h3
  omega
end Go.Proofs.Yteclnnjijfbfoaa

/-
  compact.Pick of the law's version: no job, or one of its tables; the map while a job's lists are laid.
-/
namespace Go.Proofs.Yteclnnjijfbfoaa
open Go.RowKit

theorem pick_any (w : World) (p : Option Addr) (c : Nat) (F : Int → List Ent) (nx : Int) (ts : List Tab) (up i : Nat) (S0 : List Ent) (z sz : Int) (b : Nat) (h : LpI F nx ts up S0 i) (ht : TsM w (fun k => k < w.heap.size) (.slice p ts.length c) ts) (hok : okS z (b : Int) sz = true) :
    Calls Try.prog 16 #[.agg #[.slice p ts.length c, .int .u64 0, .int .i64 0, .int .i64 0], .agg #[.int .i64 z, .int .i64 (b : Int), .int .i64 sz]] w fun x w' => Below w.heap.size w w' ∧
      (x = .returned (.tuple #[.agg #[.int .i64 0, .slice none 0 0, .bool false], .bool false]) ∨
       ∃ (lv : Int) (U : List Tab) (ip : Option Addr) (ic : Nat) (bt : Bool), JobT F nx ts U lv ∧ x = .returned (.tuple #[.agg #[.int .i64 lv, .slice ip U.length ic, .bool bt], .bool true]) ∧ Cl w' (fun _ => True) (.slice ip U.length ic) U.length (fileV U)) := by
  have hl := h.len
  have hokp := okS_iff.1 hok
  by_cases hz : z ≤ ((lvT 0 ts).length : Int)
  · have h0 : 0 < (lvT 0 ts).length := by omega
    refine (pick_zero w (.slice p ts.length c) ts 0 0 0 z (b : Int) sz _ ht (by omega) h.fitT hok hz (List.getElem?_eq_getElem h0)).mono fun x w' => ?_
    rintro ⟨U, ip, ic, bt, hU, rfl, _, ⟨b0, hr⟩, hb⟩
    obtain ⟨h1, h2⟩ := job_zero h (List.getElem?_eq_getElem h0) (stS _ (lvT 0 ts))
    rw [h1] at hU
    subst hU
    exact ⟨hb, .inr ⟨0, U, ip, ic, bt, h2, rfl, Cl.of_own hr (by omega) (fun _ _ => trivial) (by rw [fileV_len, Nat.mul_one])⟩⟩
  · refine (pick_below w (.slice p ts.length c) ts 0 0 0 z sz b ht (by omega) h.fitT h.size0 (by have := h.wT; omega) (by omega) hok (by omega)).mono fun x w' => ?_
    rintro ⟨t, hv, hb, ⟨_, rfl⟩ | ⟨h1, h5, U, ip, ic, bt, hU, rfl, _, b0, hr⟩⟩
    · exact ⟨hb, .inl rfl⟩
    · have hj := job_below h hv h1 h5
      rw [← hU] at hj
      have hjl := job_len h hj
      exact ⟨hb, .inr ⟨t.level, U, ip, ic, bt, hj, rfl, Cl.of_own hr (by omega) (fun _ _ => trivial) (by rw [fileV_len, Nat.mul_one])⟩⟩

/-- The map while a job's lists are laid into it. -/
structure MkI (m : List Fe) (nx : Int) (ps : List (List Ent)) (k : Nat) (mk : List Fe) : Prop where
  old : ∀ f, f < nx → FmM mk f = FmM m f
  new : ∀ (j : Nat) (p : List Ent), j < k → ps[j]? = some p → FmM mk (nx + (j : Int)) = p
  key : ∀ q ∈ mk, q.1 < nx + (k : Int)
theorem MkI.zero {m : List Fe} {nx : Int} {ps : List (List Ent)} (h : ∀ q ∈ m, q.1 < nx) : MkI m nx ps 0 m :=
  ⟨fun _ _ => rfl, fun j p hj => by omega, fun q hq => by have := h q hq; omega⟩
theorem MkI.put {m : List Fe} {nx : Int} {ps : List (List Ent)} {k : Nat} {mk : List Fe} (h : MkI m nx ps k mk) {p : List Ent} (hp : ps[k]? = some p) (u : Value) : MkI m nx ps (k + 1) (mk ++ [(nx + (k : Int), p, u)]) := by
  have hno : ∀ q ∈ mk, q.1 ≠ nx + (k : Int) := fun q hq => by have := h.key q hq; omega
  refine ⟨fun f hf => ?_, fun j q hj hq => ?_, fun q hq => ?_⟩
  · rw [FmM_old (by show nx + (k : Int) ≠ f; omega)]
    exact h.old f hf
  · by_cases hjk : j < k
    · rw [FmM_old (by show nx + (k : Int) ≠ nx + (j : Int); omega)]
      exact h.new j q hjk hq
    · obtain rfl : j = k := by omega
      rw [hp] at hq
      obtain rfl := Option.some.inj hq
      exact FmM_new (x := (nx + (j : Int), p, u)) hno
  · rcases List.mem_append.1 hq with h1 | h1
    · have := h.key q h1
      omega
    · obtain rfl := List.mem_singleton.1 h1
      show nx + (k : Int) < nx + ((k + 1 : Nat) : Int)
      omega
end Go.Proofs.Yteclnnjijfbfoaa

/-
  What glacierlaw9.CompactAll keeps while a job's tables are laid.
-/
namespace Go.Proofs.Yteclnnjijfbfoaa
open Go.RowKit

theorem LsW.snoc {w0 wz : World} {G : Nat → Prop} {ls : List (List Ent)} {q : Option Addr} {c : Nat} {l : List Ent} {p : Option Addr} {n k : Nat} (h : LsW w0 G ls (.slice q ls.length c) wz) (hu : En w0 G (.slice p n k) l) :
    ∃ us, (wz.alloc (.cells #[.slice p n k] 26)).ownsRow w0.heap.size 26 1 (.slice q ls.length c) ls.length us ∧ Cl (wz.alloc (.cells #[.slice p n k] 26)) (fun _ => True) (.slice (some ⟨wz.heap.size, 0, none⟩) 1 1) 1 [.slice p n k] ∧ (∀ x ∈ [Value.slice p n k], x.oneCell' = true) ∧ w0.heap.size ≤ (wz.alloc (.cells #[.slice p n k] 26)).heap.size ∧
      ∀ (y3 : Value) (w3 : World), w3.ownsRow w0.heap.size 26 1 y3 (ls.length + 1) (us ++ [.slice p n k]) → (wz.alloc (.cells #[.slice p n k] 26)).grownBy w3 (Value.slice q ls.length c).ownBlock → LsW w0 G (ls ++ [l]) y3 w3 := by
  obtain ⟨us, hus, hrow, hone, hvals, hby⟩ := h
  have hbA : Below wz.heap.size wz (wz.alloc (.cells #[.slice p n k] 26)) := belowA _ _
  have hrA := row_keep hrow fun j hj => hbA.block j (row_lt hrow j hj)
  have hBA := hby.trans (hbA.mono hby.size)
  refine ⟨us, hrA, Cl.new wz (fun _ => True) 1 [.slice p n k] _ _ rfl (by omega) trivial, fun x hx => by rw [List.mem_singleton.1 hx]; rfl, hBA.size, fun y3 w3 ho3 hg3 => ?_⟩
  have hb3 : Below w0.heap.size w0 w3 := hBA.grown (by exact hg3) hBA.size (row_low hrA)
  refine ⟨us ++ [.slice p n k], by rw [List.length_append, hus, List.length_append]; rfl, by rw [List.length_append]; exact ho3, fun x hx => ?_, fun j x u h1 h2 => ?_, hb3⟩
  · rcases List.mem_append.1 hx with h | h
    · exact hone x h
    · rw [List.mem_singleton.1 h]; rfl
  · by_cases hj : j < ls.length
    · rw [List.getElem?_append_left hj] at h1
      rw [List.getElem?_append_left (by omega)] at h2
      exact hvals j x u h1 h2
    · have hj2 : j = ls.length := by
        have := (List.getElem?_eq_some_iff.1 h1).1
        rw [List.length_append] at this
        simp at this
        omega
      subst hj2
      rw [List.getElem?_append_right (by omega), Nat.sub_self] at h1
      rw [List.getElem?_append_right (by omega), hus, Nat.sub_self] at h2
      obtain rfl : l = x := by simpa using h1
      obtain rfl : Value.slice p n k = u := by simpa using h2
      exact hu
theorem LwN.of_fr {w w5 wr : World} {vb mb : Nat} {z b t : Int} {p : Option Addr} {c : Nat} {ts : List Tab} {m mk : List Fe} (h : LwN w vb mb z b t p c ts m w5) (hf : Fr (fun j => j = mb) w5 wr) (hb : wr.heap[mb]? = some (.map (entF 0 mk).toArray mk.length)) (he : ∀ q ∈ mk, En w5 (fun k => k ≠ mb ∧ k ≠ vb) q.2.2 q.2.1) : LwN w vb mb z b t p c ts mk wr := by
  refine ⟨(hf.block _ (block_lt h.vx) h.ne.symm).trans h.vx, (hf.block _ (block_lt h.sx) (by have := h.nm; omega)).trans h.sx, hb, fun q hq => (he q hq).step hf fun _ _ hk => hk.1, row_keep h.row fun j hj => hf.block j (row_lt h.row j hj) (fun e => ?_), h.bel.trans (hf.below h.bel.size (fun k hk e => by have := h.nm; omega)), h.nv, h.nm⟩
  obtain ⟨cur, hc⟩ := row_heap h.row hj
  rw [e, h.blk] at hc
  cases hc

/-- What is kept while a job's tables are laid: w5 is the world where they had been made. -/
structure J4 (w5 : World) (mb vb xb : Nat) (ip : Option Addr) (n ic : Nat) (pq : Option Addr) (cq : Nat) (adds : List Tab) (mk : List Fe) (wr : World) : Prop where
  fr : Fr (fun j => j = mb) w5 wr
  blk : wr.heap[mb]? = some (.map (entF 0 mk).toArray mk.length)
  ens : ∀ q ∈ mk, En w5 (fun k => k ≠ mb ∧ k ≠ vb) q.2.2 q.2.1
  xx : wr.heap[xb]? = some (.cells #[.slice pq adds.length cq, .slice ip n ic, .int .u64 0, .int .i64 0, .int .i64 0] 53 (0, 0))
  row : wr.ownsRow w5.heap.size 49 5 (.slice pq adds.length cq) adds.length (cellsTs adds)
  nx : w5.heap.size ≤ xb
  nm : mb < w5.heap.size
section
variable {w5 wr w' : World} {mb vb xb : Nat} {ip : Option Addr} {n ic : Nat} {pq : Option Addr} {cq : Nat} {adds : List Tab} {mk : List Fe}
theorem J4.mapF (h : J4 w5 mb vb xb ip n ic pq cq adds mk wr) : MapF wr mb mk := ⟨h.blk, fun q hq => ((h.ens q hq).step h.fr fun _ _ hk => hk.1).mono fun _ _ hk => hk.1⟩
theorem J4.put (h : J4 w5 mb vb xb ip n ic pq cq adds mk wr) (f : Int) (l : List Ent) (u : Value) (hno : ∀ q ∈ mk, q.1 ≠ f) (hu : En w5 (fun k => k ≠ mb ∧ k ≠ vb) u l) :
    ∃ W', (Instr.mapUpdate 45 (.map (some mb)) (.int .i64 f) u).run Try.prog wr = .ok () W' ∧ J4 w5 mb vb xb ip n ic pq cq adds (mk ++ [(f, l, u)]) W' := by
  obtain ⟨W', h1, h2, h3, h4⟩ := h.mapF.put f l u hno ((hu.step h.fr fun _ _ hk => hk.1).mono fun _ _ hk => hk.1)
  refine ⟨W', h1, h.fr.then h3, h2.blk, fun q hq => ?_, (h3.block _ (block_lt h.xx) (by have := h.nx; have := h.nm; omega)).trans h.xx, row_keep h.row fun j hj => h3.block j (row_lt h.row j hj) (by have := row_low h.row j hj; have := h.nm; omega), h.nx, h.nm⟩
  rcases List.mem_append.1 hq with hq | hq
  · exact h.ens q hq
  · obtain rfl := List.mem_singleton.1 hq
    exact hu
/-- One table more: appended, and its row stored. -/
theorem J4.add (h : J4 w5 mb vb xb ip n ic pq cq adds mk wr) {p' : Option Addr} {c' : Nat} {x : Tab} (hb : Below w5.heap.size wr w') (hx : w'.heap[xb]? = some (.cells #[.slice pq adds.length cq, .slice ip n ic, .int .u64 0, .int .i64 0, .int .i64 0] 53 (0, 0)))
    (hr : w'.ownsRow w5.heap.size 49 5 (.slice p' (adds.length + 1) c') (adds.length + 1) (cellsTs adds ++ cT x)) : J4 w5 mb vb xb ip n ic p' c' (adds ++ [x]) mk (w'.setCell ⟨xb, 0, none⟩ (.slice p' (adds.length + 1) c')) := by
  have hl : (adds ++ [x]).length = adds.length + 1 := by simp
  have hs : Fr (fun k => k = xb) w' (w'.setCell ⟨xb, 0, none⟩ (.slice p' (adds.length + 1) c')) := Fr.setCell (fun k => k = xb) w' (p := ⟨xb, 0, none⟩) rfl _
  have hb2 : Below w5.heap.size wr (w'.setCell ⟨xb, 0, none⟩ (.slice p' (adds.length + 1) c')) := hb.trans (hs.below (Nat.le_trans h.fr.size hb.size) (fun k hk e => by have := h.nx; omega))
  refine ⟨⟨hb2.os.trans h.fr.os, hb2.tape.trans h.fr.tape, hb2.output.trans h.fr.output, Nat.le_trans h.fr.size hb2.size, fun k hk hn => (hb2.block k hk).trans (h.fr.block k hk hn)⟩, (hb2.block _ h.nm).trans h.blk, h.ens, ?_, ?_, h.nx, h.nm⟩
  · have h1 := setCell_same (off := 0) hx (.slice p' (adds.length + 1) c')
    rw [hl]
    simpa using h1
  · rw [hl, cellsTs_snoc]
    refine row_keep hr fun j hj => hs.block j (row_lt hr j hj) (fun e => ?_)
    obtain ⟨cur, hc⟩ := row_heap hr hj
    exact kind_ne hc hx (by decide) e
end
end Go.Proofs.Yteclnnjijfbfoaa

/-
  A shape that came in, opened.
-/
namespace Go.Proofs.Yteclnnjijfbfoaa.Ope
open Go.ChangeShapes Go.WideShapes Go.ChangeAt Go.RowKit Go.Proofs.Yteclnnjijfbfoaa

theorem cellsShp : Try.prog.cellsOf 40 = 3 := by kernel_rfl
theorem cellsIntS : Try.prog.cellsOf 3 = 1 := by kernel_rfl
set_option maxRecDepth 100000 in
theorem open_shp {H : Type} {enc : TypeId × Value → H} {W : World} {v : Value} {d : DataW H} {ps : List MemPlace} (hok : ∃ cs, v = .agg cs ∧ cs.size = Try.prog.cellsOf 40)
    (h : DataW.Trod enc Try.prog W 0 (fun _ => true) true 40 v d ps) : ∃ z b t : Int, v = .agg #[.int .i64 z, .int .i64 b, .int .i64 t] := by
  obtain ⟨csA, rfl, _⟩ := hok
  obtain ⟨fuel, h⟩ := h
  obtain ⟨cs⟩ := csA
  have h : DataW.trod enc Try.prog W 0 (fun _ => true) true fuel 40 cs = some (d, ps) := h
  obtain ⟨xs, k, _, hxy, hlen, hxl, hf⟩ := DataW.trod_struct Try.underlying40 h
  rw [cellsShp] at hlen
  match xs, hxl, cs, hlen with
  | [y0, y1, y2], _, [v0, v1, v2], _ =>
    have g0 : DataW.trod enc Try.prog W 0 (fun _ => true) true k 3 (([v0, v1, v2].drop 0).take (Try.prog.cellsOf 3)) = some y0 := hf 0 _ rfl
    rw [cellsIntS] at g0
    have g1 : DataW.trod enc Try.prog W 0 (fun _ => true) true k 3 (([v0, v1, v2].drop 1).take (Try.prog.cellsOf 3)) = some y1 := hf 1 _ rfl
    rw [cellsIntS] at g1
    have g2 : DataW.trod enc Try.prog W 0 (fun _ => true) true k 3 (([v0, v1, v2].drop 2).take (Try.prog.cellsOf 3)) = some y2 := hf 2 _ rfl
    rw [cellsIntS] at g2
    obtain ⟨n0, h0, _, _⟩ := DataW.trod_int Try.underlying3 g0
    obtain ⟨n1, h1, _, _⟩ := DataW.trod_int Try.underlying3 g1
    obtain ⟨n2, h2, _, _⟩ := DataW.trod_int Try.underlying3 g2
    obtain rfl : v0 = .int .i64 n0 := (List.cons.inj h0).1
    obtain rfl : v1 = .int .i64 n1 := (List.cons.inj h1).1
    obtain rfl : v2 = .int .i64 n2 := (List.cons.inj h2).1
    exact ⟨n0, n1, n2, rfl⟩
end Go.Proofs.Yteclnnjijfbfoaa.Ope
