/-
  A skip list in memory. 'Lk w S hv hh ns nx': the nodes ns and their towers, and the head's tower hv of hh levels, in blocks of S; a level l of the tower at place j (0: the head) leads to nx j l. 'SkAt': a table. What they outlast, what is read at a place.
-/
import Derived.Test.YtaomneenflkpeaaSkA
import Derived.Test.YtaomneenflkpeaaSkP
namespace Go.Proofs.Ytaomneenflkpeaa
open Go.RowKit

/-- A pointer to a block, or none. -/
def pv (q : Option Nat) : Value := .pointer (q.map fun b => ⟨b, 0, none⟩)
def tows (n : Nat) (f : Nat → Option Nat) : List Value := (List.range n).map fun l => pv (f l)
theorem tows_length (n : Nat) (f : Nat → Option Nat) : (tows n f).length = n := by simp [tows]
theorem tows_at {n : Nat} {f : Nat → Option Nat} {l : Nat} (h : l < n) : (tows n f)[l]? = some (pv (f l)) := by simp [tows, h]
theorem tows_one (n : Nat) (f : Nat → Option Nat) : ∀ x ∈ tows n f, x.oneCell' = true := by
  intro x hx
  obtain ⟨l, _, rfl⟩ := List.mem_map.1 hx
  unfold pv
  cases f l <;> rfl
theorem tows_congr {n : Nat} {f g : Nat → Option Nat} (h : ∀ l, l < n → f l = g l) : tows n f = tows n g := by
  unfold tows
  refine List.map_congr_left fun l hl => ?_
  rw [h l (List.mem_range.1 hl)]
theorem tows_succ (n : Nat) (f : Nat → Option Nat) : tows (n + 1) f = tows n f ++ [pv (f n)] := by
  unfold tows
  rw [List.range_succ, List.map_append]
  rfl
theorem tows_set {n : Nat} {f : Nat → Option Nat} {l : Nat} (q : Option Nat) : (tows n f).set l (pv q) = tows n fun k => if k = l then q else f k := by
  refine List.ext_getElem? fun k => ?_
  rw [List.getElem?_set]
  rcases Nat.lt_or_ge k n with hk | hk
  · rw [tows_at hk, tows_at hk, tows_length]
    by_cases e : l = k
    · subst e
      simp [hk]
    · rw [if_neg e, if_neg (fun h : k = l => e h.symm)]
  · rw [List.getElem?_eq_none (by rw [tows_length]; exact hk), List.getElem?_eq_none (by rw [tows_length]; exact hk), tows_length]
    split
    · rw [if_neg (by omega)]
    · rfl

/-- A node's cells. -/
def ndC (nd : Nd) : Array Value := #[.string ⟨nd.ent.key.toArray⟩, .int .u64 (nd.ent.seq : Int), .bool nd.ent.gone, .string ⟨nd.ent.val.toArray⟩, .int .i64 (nd.num : Int), .slice (some ⟨nd.tow, 0, none⟩) nd.h nd.h]
def NdB (w : World) (nd : Nd) : Prop := w.heap[nd.blk]? = some (.cells (ndC nd) 62 (0, 0))
def TwB (w : World) (nd : Nd) (f : Nat → Option Nat) : Prop := w.heap[nd.tow]? = some (.cells (tows nd.h f).toArray 73 (0, 0))
structure Lk (w : World) (S : Nat → Prop) (hv : Value) (hh : Nat) (ns : List Nd) (nx : Nat → Nat → Option Nat) : Prop where
  hrow : w.ownsRow 0 73 1 hv hh (tows hh (nx 0))
  hS : ∀ k, hv.ownBlock = some k → S k
  nb : ∀ (i : Nat) (nd : Nd), ns[i]? = some nd → S nd.blk ∧ NdB w nd
  tb : ∀ (i : Nat) (nd : Nd), ns[i]? = some nd → S nd.tow ∧ TwB w nd (nx (i + 1))
  bne : ∀ (i j : Nat) (a b : Nd), ns[i]? = some a → ns[j]? = some b → a.blk = b.blk → i = j
  tne : ∀ (i j : Nat) (a b : Nd), ns[i]? = some a → ns[j]? = some b → a.tow = b.tow → i = j
  hne : ∀ (i : Nat) (a : Nd), ns[i]? = some a → hv.ownBlock ≠ some a.tow
section
variable {w w' : World} {S S' R : Nat → Prop} {hv : Value} {hh : Nat} {ns : List Nd} {nx ny : Nat → Nat → Option Nat}
theorem Lk.step (h : Lk w S hv hh ns nx) (hf : Fr R w w') (hd : ∀ k, k < w.heap.size → S k → ¬ R k) (hS : ∀ k, k < w.heap.size → S k → S' k) : Lk w' S' hv hh ns nx := by
  have keep : ∀ {k : Nat} {o : Obj}, S k → w.heap[k]? = some o → S' k ∧ w'.heap[k]? = some o := fun hk ho => ⟨hS _ (block_lt ho) hk, hf.keep ho (hd _ (block_lt ho) hk)⟩
  refine ⟨row_keep h.hrow fun k hk => ?_, fun k hk => ?_, fun i nd hi => ?_, fun i nd hi => ?_, h.bne, h.tne, h.hne⟩
  · obtain ⟨cur, hc⟩ := row_heap h.hrow hk
    exact hf.block k (block_lt hc) (hd k (block_lt hc) (h.hS k hk))
  · obtain ⟨cur, hc⟩ := row_heap h.hrow hk
    exact hS k (block_lt hc) (h.hS k hk)
  · obtain ⟨h1, h2⟩ := h.nb i nd hi
    exact keep h1 h2
  · obtain ⟨h1, h2⟩ := h.tb i nd hi
    exact keep h1 h2
theorem Lk.after (h : Lk w S hv hh ns nx) (hb : Below w.heap.size w w') : Lk w' S hv hh ns nx := h.step (Fr.of_new hb (fun _ => False)) (fun _ _ _ hf => hf) (fun _ _ hs => hs)
theorem Lk.congr (h : Lk w S hv hh ns nx) (h0 : ∀ l, l < hh → nx 0 l = ny 0 l) (hj : ∀ (i : Nat) (nd : Nd) (l : Nat), ns[i]? = some nd → l < nd.h → nx (i + 1) l = ny (i + 1) l) : Lk w S hv hh ns ny := by
  refine ⟨?_, h.hS, h.nb, fun i nd hi => ?_, h.bne, h.tne, h.hne⟩
  · rw [← tows_congr h0]; exact h.hrow
  · obtain ⟨h1, h2⟩ := h.tb i nd hi
    refine ⟨h1, ?_⟩
    unfold TwB at h2 ⊢
    rw [← tows_congr fun l hl => hj i nd l hi hl]
    exact h2
end

/-- The place j of a list: its block, its offset there (mb: the table's block); how many levels its tower has. -/
def pB (mb : Nat) (ns : List Nd) : Nat → Nat
  | 0 => mb
  | i + 1 => match ns[i]? with | some nd => nd.blk | none => 0
def pO : Nat → Nat
  | 0 => 2
  | _ + 1 => 0
def pH (hh : Nat) (ns : List Nd) : Nat → Nat
  | 0 => hh
  | i + 1 => match ns[i]? with | some nd => nd.h | none => 0
theorem pB_at {mb : Nat} {ns : List Nd} {i : Nat} {nd : Nd} (h : ns[i]? = some nd) : pB mb ns (i + 1) = nd.blk := by simp [pB, h]
theorem pH_at {hh : Nat} {ns : List Nd} {i : Nat} {nd : Nd} (h : ns[i]? = some nd) : pH hh ns (i + 1) = nd.h := by simp [pH, h]

/-- A change that waits to be filled. -/
def ChB (w : World) (b : Nat) : Prop := w.heap[b]? = some (.cells #[.int .i64 0, .string ⟨#[]⟩, .int .u64 0, .bool false, .string ⟨#[]⟩, .pointer none] 113 (0, 0))
/-- A table's cells. -/
def tbC (dv : Value) (size : Nat) (hv : Value) (cnt : Nat) (bk : Option Nat) : Array Value :=
  #[dv, .int .i64 (size : Int), .string ⟨#[]⟩, .int .u64 0, .bool false, .string ⟨#[]⟩, .int .i64 0, hv, .int .i64 (cnt : Int), pv bk]
structure SkAt (w : World) (S : Nat → Prop) (mb : Nat) (T : PTb) (sz : Nat) (dv hv : Value) (hh : Nat) (ns : List Nd) (bk : Option Nat) : Prop where
  blk : w.heap[mb]? = some (.cells (tbC dv sz hv ns.length bk) 67 (0, 0))
  inS : S mb
  ents : ns.map Nd.ent = T.L
  hs : ns.map (fun n => (n.h : Int)) = T.H
  came : T.came = ns.length
  wf : WfT T
  drw : w.ownsRow 0 3 1 dv T.draws.length (ints T.draws)
  drS : ∀ k, dv.ownBlock = some k → S k
  hle : ∀ nd ∈ ns, nd.h ≤ hh
  h12 : hh ≤ 12
  nums : (ns.map Nd.num).Nodup
  numl : ∀ nd ∈ ns, nd.num < ns.length
  lk : Lk w S hv hh ns fun j => nxt (ns.drop j)
  bnil : bk = none → ns = []
  blank : ∀ b, bk = some b → S b ∧ ChB w b
section
variable {w w' : World} {S S' R : Nat → Prop} {mb : Nat} {T : PTb} {sz : Nat} {dv hv : Value} {hh : Nat} {ns : List Nd} {bk : Option Nat}
theorem SkAt.step (h : SkAt w S mb T sz dv hv hh ns bk) (hf : Fr R w w') (hd : ∀ k, k < w.heap.size → S k → ¬ R k) (hS : ∀ k, k < w.heap.size → S k → S' k) : SkAt w' S' mb T sz dv hv hh ns bk := by
  have keep : ∀ {k : Nat} {o : Obj}, S k → w.heap[k]? = some o → S' k ∧ w'.heap[k]? = some o := fun hk ho => ⟨hS _ (block_lt ho) hk, hf.keep ho (hd _ (block_lt ho) hk)⟩
  refine ⟨(keep h.inS h.blk).2, (keep h.inS h.blk).1, h.ents, h.hs, h.came, h.wf, row_keep h.drw fun k hk => ?_, fun k hk => ?_, h.hle, h.h12, h.nums, h.numl, h.lk.step hf hd hS, h.bnil, fun b hb => ?_⟩
  · obtain ⟨cur, hc⟩ := row_heap h.drw hk
    exact hf.block k (block_lt hc) (hd k (block_lt hc) (h.drS k hk))
  · obtain ⟨cur, hc⟩ := row_heap h.drw hk
    exact hS k (block_lt hc) (h.drS k hk)
  · obtain ⟨h1, h2⟩ := h.blank b hb
    exact keep h1 h2
theorem SkAt.after (h : SkAt w S mb T sz dv hv hh ns bk) (hb : Below w.heap.size w w') : SkAt w' S mb T sz dv hv hh ns bk := h.step (Fr.of_new hb (fun _ => False)) (fun _ _ _ hf => hf) (fun _ _ hs => hs)
theorem SkAt.lt (h : SkAt w S mb T sz dv hv hh ns bk) : mb < w.heap.size := block_lt h.blk
theorem SkAt.len (h : SkAt w S mb T sz dv hv hh ns bk) : T.L.length = ns.length := by rw [← h.ents, List.length_map]
theorem SkAt.c0 (h : SkAt w S mb T sz dv hv hh ns bk) : w.cell? ⟨mb, 0, none⟩ = some dv := cell_of h.blk rfl
theorem SkAt.c1 (h : SkAt w S mb T sz dv hv hh ns bk) : w.cell? ⟨mb, 1, none⟩ = some (.int .i64 (sz : Int)) := cell_of h.blk rfl
theorem SkAt.c7 (h : SkAt w S mb T sz dv hv hh ns bk) : w.cell? ⟨mb, 7, none⟩ = some hv := cell_of h.blk rfl
theorem SkAt.c8 (h : SkAt w S mb T sz dv hv hh ns bk) : w.cell? ⟨mb, 8, none⟩ = some (.int .i64 (ns.length : Int)) := cell_of h.blk rfl
theorem SkAt.c9 (h : SkAt w S mb T sz dv hv hh ns bk) : w.cell? ⟨mb, 9, none⟩ = some (pv bk) := cell_of h.blk rfl
theorem SkAt.fz (h : SkAt w S mb T sz dv hv hh ns bk) (i : Nat) : w.frozen? ⟨mb, i, none⟩ = false := frozen_of h.blk
theorem SkAt.at_ (h : SkAt w S mb T sz dv hv hh ns bk) {i : Nat} (hi : i < T.L.length) : ∃ nd, ns[i]? = some nd ∧ nd.ent = T.L[i] ∧ 1 ≤ nd.h ∧ nd.h ≤ 12 := by
  have hl := h.len
  have hin : i < ns.length := by omega
  refine ⟨ns[i], List.getElem?_eq_getElem hin, ?_, ?_⟩
  · have h1 : (ns.map Nd.ent)[i]? = T.L[i]? := by rw [h.ents]
    rw [List.getElem?_map, List.getElem?_eq_getElem hin, List.getElem?_eq_getElem hi] at h1
    exact Option.some.inj h1
  · have := h.wf.high (ns[i].h : Int) (by rw [← h.hs]; exact List.mem_map.2 ⟨_, List.getElem_mem hin, rfl⟩)
    omega
theorem SkAt.h1 (h : SkAt w S mb T sz dv hv hh ns bk) : ∀ nd ∈ ns, 1 ≤ nd.h ∧ nd.h ≤ 12 := fun nd hnd => by
  have := h.wf.high (nd.h : Int) (by rw [← h.hs]; exact List.mem_map.2 ⟨_, hnd, rfl⟩)
  omega
theorem highE_ge : ∀ (l : List Int) (m : Int), (m ≤ l.foldl (fun m h => if m < h then h else m) m) ∧ ∀ x ∈ l, x ≤ l.foldl (fun m h => if m < h then h else m) m
  | [], m => ⟨Int.le_refl _, fun x hx => by cases hx⟩
  | y :: r, m => by
    obtain ⟨h1, h2⟩ := highE_ge r (if m < y then y else m)
    simp only [List.foldl_cons]
    refine ⟨?_, fun x hx => ?_⟩
    · split at h1 <;> rename_i hq <;> simp only [hq, if_true, if_false] <;> omega
    · rcases List.mem_cons.1 hx with rfl | hx
      · split at h1 <;> rename_i hq <;> simp only [hq, if_true, if_false] <;> omega
      · exact h2 x hx
theorem high_of {H : List Int} {hh : Nat} (hi : (hh : Int) = highE H) {ns : List Nd} (hs : ns.map (fun n => (n.h : Int)) = H) : ∀ nd ∈ ns, nd.h ≤ hh := fun nd hnd => by
  have h1 := (highE_ge H 0).2 (nd.h : Int) (by rw [← hs]; exact List.mem_map.2 ⟨_, hnd, rfl⟩)
  unfold highE at hi
  omega
/-- The tower at a place: its slice, and each level's cell. -/
theorem Lk.tow {nx : Nat → Nat → Option Nat} (h : Lk w S hv hh ns nx) (h7 : w.cell? ⟨mb, 7, none⟩ = some hv) (h12 : hh ≤ 12) (hn : ∀ nd ∈ ns, nd.h ≤ 12) {j : Nat} (hj : j ≤ ns.length) : ∃ q c, w.cell? ⟨pB mb ns j, pO j + 5, none⟩ = some (.slice q (pH hh ns j) c) ∧ pH hh ns j ≤ 12 ∧ pH hh ns j ≤ c ∧ c ≤ 9223372036854775807 ∧ pB mb ns j < w.heap.size ∧
    ∀ l, l < pH hh ns j → ∃ b, q = some ⟨b, 0, none⟩ ∧ w.cell? ⟨b, l, none⟩ = some (pv (nx j l)) ∧ S b ∧ (∃ cs, w.heap[b]? = some (.cells cs 73 (0, 0))) ∧
      ∀ v, Lk (w.setCell ⟨b, l, none⟩ (pv v)) S hv hh ns (fun j' l' => if j' = j ∧ l' = l then v else nx j' l') := by
  have kne : ∀ {k b : Nat} {cs ds : Array Value}, w.heap[k]? = some (.cells cs 62 (0, 0)) → w.heap[b]? = some (.cells ds 73 (0, 0)) → k ≠ b := fun h1 h2 => kind_ne h1 h2 (by decide)
  cases j with
  | zero =>
    obtain ⟨p, cap, e, h1, h2⟩ := row_shape h.hrow
    have hlt := cell_lt h7
    rw [e] at h7
    refine ⟨p, cap, h7, h12, h1, h2, hlt, fun l hl => ?_⟩
    have hl' : l < hh := hl
    have hr := h.hrow
    rcases hr.2 with ⟨_, h0⟩ | ⟨g, cap', cur, e', hb0, hg, hn1, hc1, hs1, ht1⟩
    · omega
    · have e'' := e'
      rw [e] at e'
      injection e' with e1 e2 e3
      subst e1
      refine ⟨g, rfl, ?_, h.hS g (by rw [e]; rfl), ⟨_, hg⟩, fun v => ?_⟩
      · have hr2 := hr
        rw [e] at hr2
        have := hr2.cellAt l (by omega)
        rw [this]
        exact tows_at hl'
      · have hcl : l < cur.size := by omega
        refine ⟨⟨by rw [tows_length]; omega, .inr ⟨g, cap', cur.setIfInBounds l (pv v), e'', hb0, setCell_same hg _, hn1, hc1, by simpa using hs1, ?_⟩⟩, h.hS, fun i nd hi => ?_, fun i nd hi => ?_, h.bne, h.tne, h.hne⟩
        · rw [Array.toList_setIfInBounds, List.take_set, ht1, tows_set]
          exact tows_congr fun k _ => by simp
        · obtain ⟨a1, a2⟩ := h.nb i nd hi
          exact ⟨a1, (setCell_other (kne a2 hg) _).trans a2⟩
        · obtain ⟨a1, a2⟩ := h.tb i nd hi
          refine ⟨a1, ?_⟩
          have hne := h.hne i nd hi
          rw [e''] at hne
          have hne2 : nd.tow ≠ g := fun e => hne (by rw [e]; rfl)
          have a3 := (setCell_other hne2 (pv v) (off := l)).trans a2
          unfold TwB
          rw [tows_congr (g := nx (i + 1)) fun k _ => by simp]
          exact a3
  | succ i =>
    have hi : ns[i]? = some ns[i] := List.getElem?_eq_getElem (by omega)
    rw [pB_at hi, pH_at hi]
    have hn1 := (h.nb i _ hi).2
    obtain ⟨hts, ht⟩ := h.tb i _ hi
    refine ⟨_, _, cell_of (i := 5) hn1 rfl, hn _ (List.getElem_mem (by omega)), Nat.le_refl _, by have := hn _ (List.getElem_mem (show i < ns.length by omega)); omega, block_lt hn1, fun l hl => ⟨_, rfl, cell_of ht (by rw [List.getElem?_toArray]; exact tows_at hl), hts, ⟨_, ht⟩, fun v => ?_⟩⟩
    refine ⟨?_, h.hS, fun k nd hk => ?_, fun k nd hk => ?_, h.bne, h.tne, h.hne⟩
    · have h1 := row_keep (w' := w.setCell ⟨ns[i].tow, l, none⟩ (pv v)) h.hrow fun k hk => setCell_other (fun e => h.hne i _ hi (by rw [hk, e])) _
      rw [tows_congr (g := nx 0) fun k _ => by simp]
      exact h1
    · obtain ⟨a1, a2⟩ := h.nb k nd hk
      exact ⟨a1, (setCell_other (kne a2 ht) _).trans a2⟩
    · obtain ⟨a1, a2⟩ := h.tb k nd hk
      refine ⟨a1, ?_⟩
      by_cases e : k = i
      · subst e
        rw [hi] at hk
        obtain rfl := Option.some.inj hk
        have h1 := setCell_same (off := l) ht (pv v)
        unfold TwB
        rw [h1]
        congr 2
        rw [List.setIfInBounds_toArray, tows_set]
        exact congrArg List.toArray (tows_congr fun k _ => by simp)
      · have hne2 : nd.tow ≠ ns[i].tow := fun e2 => e (h.tne k i _ _ hk hi e2)
        unfold TwB
        rw [tows_congr (g := nx (k + 1)) fun l' _ => by simp [e]]
        exact (setCell_other hne2 _).trans a2
theorem SkAt.tow (h : SkAt w S mb T sz dv hv hh ns bk) {j : Nat} (hj : j ≤ ns.length) : ∃ q c, w.cell? ⟨pB mb ns j, pO j + 5, none⟩ = some (.slice q (pH hh ns j) c) ∧ pH hh ns j ≤ 12 ∧ pH hh ns j ≤ c ∧ c ≤ 9223372036854775807 ∧ pB mb ns j < w.heap.size ∧
    ∀ l, l < pH hh ns j → ∃ b, q = some ⟨b, 0, none⟩ ∧ w.cell? ⟨b, l, none⟩ = some (pv (nxt (ns.drop j) l)) := by
  obtain ⟨q, c, h1, h2, h3, h4, h5, h6⟩ := h.lk.tow h.c7 h.h12 (fun nd hnd => (h.h1 nd hnd).2) hj
  refine ⟨q, c, h1, h2, h3, h4, h5, fun l hl => ?_⟩
  obtain ⟨b, e1, e2, _⟩ := h6 l hl
  exact ⟨b, e1, e2⟩
end
/-- Block mb is a table that is told by T, its blocks in S. -/
def Sk (w : World) (S : Nat → Prop) (mb : Nat) (T : PTb) : Prop := ∃ dv hv hh ns bk, SkAt w S mb T (sizeE T.L) dv hv hh ns bk ∧ (hh : Int) = highE T.H ∧ T.draws.length ≤ 1048576
end Go.Proofs.Ytaomneenflkpeaa
