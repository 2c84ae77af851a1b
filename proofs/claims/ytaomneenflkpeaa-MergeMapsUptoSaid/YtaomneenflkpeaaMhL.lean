/-
  A map from keys to versions in memory: looked up, stored into, gone over.
-/
import Derived.Test.YtaomneenflkpeaaMhI
import Derived.Test.YtaomneenflkpeaaEnM
import Derived.MapKept
import Derived.Laws.IdiomRangeMap
import Derived.RangeFuncRecord
namespace Go.Proofs.Ytaomneenflkpeaa
open Go.RowKit Go.MapKept

/-- Versions, each with the slice of its value. -/
abbrev Pe := Ent × Value
def entB : Nat → List Pe → List MapEntry
  | _, [] => []
  | i, p :: r => { key := .string ⟨p.1.key.toArray⟩, val := entV p.1 p.2, born := i } :: entB (i + 1) r
def idxP : List Pe → List UInt8 → Option (Nat × Pe)
  | [], _ => none
  | p :: r, s => if p.1.key == s then some (0, p) else (idxP r s).map fun q => (q.1 + 1, q.2)
def setP (m : List Pe) (x : Ent) (u : Value) : List Pe := m.map fun p => if p.1.key == x.key then (x, u) else p
def putP (m : List Pe) (x : Ent) (u : Value) : List Pe := match idxP m x.key with
  | none => m ++ [(x, u)]
  | some _ => setP m x u
theorem str_same (a b : List UInt8) : Instr.sameNow .string (.string ⟨a.toArray⟩) (.string ⟨b.toArray⟩) = some (b == a) := by
  show some ((⟨a.toArray⟩ : ByteArray) == ⟨b.toArray⟩) = _
  congr 1
  rcases h : (b == a) with _ | _
  · rcases h2 : ((⟨a.toArray⟩ : ByteArray) == ⟨b.toArray⟩) with _ | _
    · rfl
    · have := (bytes_beq _ _).1 h2
      simp at this
      subst this
      simp at h
  · have := eq_of_beq h
    subst this
    exact (bytes_beq _ _).2 rfl
theorem find_entB (s : List UInt8) : ∀ (m : List Pe) (i j : Nat), Instr.findNow .string (.string ⟨s.toArray⟩) (entB i m) j = some ((idxP m s).map fun q => (j + q.1, entV q.2.1 q.2.2))
  | [], i, j => rfl
  | p :: r, i, j => by
    have ih := find_entB s r (i + 1) (j + 1)
    simp only [entB, Instr.findNow, str_same, idxP]
    rcases h : (p.1.key == s) with _ | _
    · simp only [ih, Bool.false_eq_true, if_false]
      cases idxP r s <;> simp
      omega
    · simp
theorem idxP_look : ∀ (m : List Pe) (s : List UInt8), (idxP m s).map (fun q => q.2.1) = lookB (m.map Prod.fst) s
  | [], s => rfl
  | p :: r, s => by
    have ih := idxP_look r s
    unfold lookB at ih ⊢
    simp only [idxP, List.map_cons, List.find?_cons]
    rcases h : (p.1.key == s) with _ | _
    · simp only [Bool.false_eq_true, if_false, ← ih]
      cases idxP r s <;> simp
    · simp
theorem idxP_mem : ∀ {m : List Pe} {s : List UInt8} {q : Nat × Pe}, idxP m s = some q → q.2 ∈ m ∧ q.2.1.key = s
  | [], s, q, h => by cases h
  | p :: r, s, q, h => by
    unfold idxP at h
    split at h
    · rename_i hk
      obtain rfl := Option.some.inj h
      exact ⟨by simp, eq_of_beq hk⟩
    · rcases e : idxP r s with _ | q'
      · rw [e] at h; cases h
      · rw [e] at h
        obtain rfl := Option.some.inj h
        obtain ⟨h1, h2⟩ := idxP_mem e
        exact ⟨List.mem_cons_of_mem _ h1, h2⟩
theorem setP_keys (m : List Pe) (x : Ent) (u : Value) : (setP m x u).map Prod.fst = setB (m.map Prod.fst) x := by
  unfold setP setB
  rw [List.map_map, List.map_map]
  refine List.map_congr_left fun p _ => ?_
  simp only [Function.comp]
  split <;> rfl
theorem putP_put (up : Nat) (m : List Pe) (x : Ent) (u : Value) (h1 : x.seq ≤ up) (h2 : ∀ y, lookB (m.map Prod.fst) x.key = some y → y.seq < x.seq) : (putP m x u).map Prod.fst = putB up (m.map Prod.fst) x := by
  unfold putP putB
  rw [if_neg (by omega)]
  have hl := idxP_look m x.key
  rcases e : idxP m x.key with _ | q
  · rw [e] at hl
    rw [← hl]
    simp
  · rw [e] at hl
    have := h2 q.2.1 hl.symm
    rw [← hl]
    simp only [Option.map_some]
    rw [if_pos this, setP_keys]
theorem entB_len : ∀ (m : List Pe) (i : Nat), (entB i m).length = m.length
  | [], _ => rfl
  | p :: r, i => by simp [entB, entB_len r (i + 1)]
theorem entB_snoc : ∀ (m : List Pe) (i : Nat) (p : Pe), entB i (m ++ [p]) = entB i m ++ [{ key := .string ⟨p.1.key.toArray⟩, val := entV p.1 p.2, born := i + m.length }]
  | [], i, p => by simp [entB]
  | q :: r, i, p => by
    simp [entB, entB_snoc r (i + 1) p]
    omega
theorem setP_none {m : List Pe} {x : Ent} (h : ∀ p ∈ m, p.1.key ≠ x.key) (u : Value) : setP m x u = m := by
  unfold setP
  refine (List.map_congr_left fun p hp => ?_).trans (List.map_id _)
  rw [if_neg (by simpa using h p hp)]
  rfl
theorem entB_set (x : Ent) (u : Value) : ∀ (m : List Pe) (i n : Nat) (p : Pe), KeysN (m.map Prod.fst) → idxP m x.key = some (n, p) →
    (entB i m).modify n (fun e => { e with key := .string ⟨x.key.toArray⟩, val := entV x u }) = entB i (setP m x u)
  | [], i, n, p, _, h => by cases h
  | q :: r, i, n, p, hk, h => by
    have hk' : (∀ z ∈ r, q.1.key ≠ z.1.key) ∧ KeysN (r.map Prod.fst) := by
      have := List.pairwise_cons.1 (show ((q.1 :: r.map Prod.fst).Pairwise fun a b => a.key ≠ b.key) from hk)
      exact ⟨fun z hz => this.1 z.1 (List.mem_map_of_mem hz), this.2⟩
    unfold idxP at h
    split at h
    · rename_i he
      have he' := eq_of_beq he
      obtain ⟨rfl, rfl⟩ := Prod.mk.inj (Option.some.inj h)
      have h1 : setP (q :: r) x u = (x, u) :: r := by
        have h2 := setP_none (m := r) (x := x) (fun p hp e => hk'.1 p hp (he'.trans e.symm)) u
        unfold setP at h2 ⊢
        rw [List.map_cons, if_pos he, h2]
      rw [h1]
      rfl
    · rename_i he
      rcases e : idxP r x.key with _ | ⟨n', p'⟩
      · rw [e] at h; cases h
      · rw [e] at h
        obtain ⟨rfl, rfl⟩ := Prod.mk.inj (Option.some.inj h)
        have ih := entB_set x u r (i + 1) n' p' hk'.2 e
        have h1 : setP (q :: r) x u = q :: setP r x u := by
          unfold setP
          rw [List.map_cons, if_neg he]
        rw [h1]
        simp only [entB, List.modify_succ_cons, ih]
structure MapE (W : World) (mb : Nat) (m : List Pe) : Prop where
  blk : W.heap[mb]? = some (.map (entB 0 m).toArray m.length)
  keys : KeysN (m.map Prod.fst)
theorem MapE.keep {W W' : World} {mb : Nat} {m : List Pe} (h : MapE W mb m) (e : W'.heap[mb]? = W.heap[mb]?) : MapE W' mb m := ⟨e.trans h.blk, h.keys⟩
theorem idxP_of {m : List Pe} (h : KeysN (m.map Prod.fst)) {p : Pe} (hp : p ∈ m) : ∃ n p', idxP m p.1.key = some (n, p') ∧ p'.1 = p.1 := by
  have h1 := idxP_look m p.1.key
  rw [lookB_mem h (List.mem_map_of_mem hp)] at h1
  rcases e : idxP m p.1.key with _ | ⟨n, p'⟩
  · rw [e] at h1; cases h1
  · rw [e] at h1
    exact ⟨n, p', rfl, Option.some.inj h1⟩
def getE (m : List Pe) (s : List UInt8) : Value := match idxP m s with
  | some q => entV q.2.1 q.2.2
  | none => entV ⟨[], 0, false, []⟩ (.slice none 0 0)
theorem MapE.look {W : World} {mb : Nat} {m : List Pe} (h : MapE W mb m) (s : List UInt8) (ok : Bool) :
    (Instr.lookup 54 (.map (some mb)) (.string ⟨s.toArray⟩) ok).run Try.prog W = .ok (if ok = true then .tuple #[getE m s, .bool (idxP m s).isSome] else getE m s) W := by
  have h1 : ∀ e, (Instr.checkKey e 10000 9 (.string ⟨s.toArray⟩)).run Try.prog W = .ok () W := fun e => run_checkKey (n := 9999) Try.underlying9 (show IsKey .string (.string _) by unfold IsKey; trivial) _
  have hf : Instr.findNow .string (.string ⟨s.toArray⟩) (entB 0 m) 0 = some ((idxP m s).map fun q => (0 + q.1, entV q.2.1 q.2.2)) := find_entB s m 0 0
  have h2 : (Instr.findKey 9 (.string ⟨s.toArray⟩) (entB 0 m)).run Try.prog W = .ok _ W := run_findKey Try.underlying9 hf
  have h3 : (zeroValue 30).run Try.prog W = .ok (entV ⟨[], 0, false, []⟩ (.slice none 0 0)) W := Try.zeroValue30 W
  unfold getE
  rcases e : idxP m s with _ | q
  · rw [e] at h2
    cases ok <;> simp [Instr.lookup, run_underlying Try.underlying54, getObj, Sem.run, h.blk, h1, h2, h3, Result.andThen]
  · rw [e] at h2
    cases ok <;> simp [Instr.lookup, run_underlying Try.underlying54, getObj, Sem.run, h.blk, h1, h2, Result.andThen]
theorem putP_keysN {m : List Pe} (h : KeysN (m.map Prod.fst)) (x : Ent) (u : Value) : KeysN ((putP m x u).map Prod.fst) := by
  unfold putP
  rcases e : idxP m x.key with _ | q
  · have h1 := idxP_look m x.key
    rw [e] at h1
    have hno := lookB_none h1.symm
    rw [List.map_append]
    refine List.pairwise_append.2 ⟨h, by simp, fun a ha b hb => ?_⟩
    simp at hb
    subst hb
    exact hno a ha
  · show KeysN ((setP m x u).map Prod.fst)
    rw [setP_keys, keysN_iff, setB_keys, ← keysN_iff]
    exact h
theorem MapE.put {W : World} {mb : Nat} {m : List Pe} (h : MapE W mb m) (x : Ent) (u : Value) :
    ∃ W', (Instr.mapUpdate 54 (.map (some mb)) (.string ⟨x.key.toArray⟩) (entV x u)).run Try.prog W = .ok () W' ∧ MapE W' mb (putP m x u) ∧ (∀ k, k ≠ mb → W'.heap[k]? = W.heap[k]?) ∧ W'.heap.size = W.heap.size ∧ W'.os = W.os ∧ W'.tape = W.tape ∧ W'.output = W.output := by
  have hlt : mb < W.heap.size := (Array.getElem?_eq_some_iff.1 h.blk).1
  have h1 : ∀ e, (Instr.checkKey e 10000 9 (.string ⟨x.key.toArray⟩)).run Try.prog W = .ok () W := fun e => run_checkKey (n := 9999) Try.underlying9 (show IsKey .string (.string _) by unfold IsKey; trivial) _
  have hf : Instr.findNow .string (.string ⟨x.key.toArray⟩) (entB 0 m) 0 = some ((idxP m x.key).map fun q => (0 + q.1, entV q.2.1 q.2.2)) := find_entB x.key m 0 0
  have h2 : (Instr.findKey 9 (.string ⟨x.key.toArray⟩) (entB 0 m)).run Try.prog W = .ok _ W := run_findKey Try.underlying9 hf
  refine ⟨W.putObj mb (.map (entB 0 (putP m x u)).toArray (putP m x u).length), ?_, ⟨World.putObj_heap_same hlt, putP_keysN h.keys x u⟩, fun k hk => World.putObj_heap_other hk, by simp [World.putObj], rfl, rfl, rfl⟩
  unfold putP
  rcases e : idxP m x.key with _ | ⟨n, p⟩
  · rw [e] at h2
    simp [Instr.mapUpdate, run_underlying Try.underlying54, getObj, Sem.run, h.blk, h1, h2, Result.andThen, setObj, World.putObj, entB_snoc]
  · rw [e] at h2
    have hset := entB_set x u m 0 n p h.keys e
    have hmod : (entB 0 m).toArray.modify n (fun e => { e with key := .string ⟨x.key.toArray⟩, val := entV x u }) = (entB 0 (setP m x u)).toArray := by
      apply Array.toList_inj.1
      rw [Array.toList_modify]
      exact hset
    have hln : (setP m x u).length = m.length := by simp [setP]
    have hkey : ((entB 0 m)[n]?.map (·.key)).getD (.string ⟨x.key.toArray⟩) = .string ⟨x.key.toArray⟩ := by
      rcases findNow_spec (d := .string) (k := .string ⟨x.key.toArray⟩) (by unfold IsKey; trivial) (entB 0 m) 0 (fun y hy => by
        obtain ⟨j, hj, rfl⟩ := List.getElem_of_mem hy
        have : ∀ (m : List Pe) (i j : Nat) (hj : j < (entB i m).length), IsKey .string ((entB i m)[j]).key := by
          intro m
          induction m with
          | nil => intro i j hj; simp [entB] at hj
          | cons p r ih =>
            intro i j hj
            cases j with
            | zero => simp only [entB, List.getElem_cons_zero]; unfold IsKey; trivial
            | succ j => simp only [entB, List.getElem_cons_succ]; exact ih (i + 1) j (by simpa [entB] using hj)
        exact this m 0 j hj) with ⟨a1, _⟩ | ⟨j, e', a1, a2, a3⟩
      · rw [a1, e] at hf; cases hf
      · rw [a1, e] at hf
        simp at hf
        obtain ⟨rfl, _⟩ := hf
        rw [a2]
        simp [a3]
    have hkt : (Instr.keyThatStays (.string ⟨x.key.toArray⟩) (.string ⟨x.key.toArray⟩)).run Try.prog W = .ok (.string ⟨x.key.toArray⟩) W := run_keyThatStays (d := .string) (by unfold IsKey; trivial)
    have hgo : (getObj mb).run Try.prog W = .ok (.map (entB 0 m).toArray m.length) W := by simp [getObj, Sem.run, h.blk]
    simp only [Nat.zero_add, Option.map_some] at h2
    simp only [Instr.mapUpdate, Sem.run_bind, run_underlying Try.underlying54, Result.andThen, hgo, h1, h2, List.getElem?_toArray, hkey, hkt, run_setObj_map _ h.blk, hmod, World.putObj, hln]
end Go.Proofs.Ytaomneenflkpeaa
