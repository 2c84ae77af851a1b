/-
  A map from keys to versions gone over: the step, and the count of those that are not gone.
-/
import Derived.Test.YtaomneenflkpeaaMhL
namespace Go.Proofs.Ytaomneenflkpeaa
open Go.RowKit Go.MapKept

/-- What runs so leaves the tape. -/
def KT {α : Type} (P : Program) (m : Sem α) : Prop := ∀ W v W', m.run P W = .ok v W' → W'.tape = W.tape
theorem KT.pure {α : Type} {P : Program} (a : α) : KT P (Pure.pure a : Sem α) := fun W v W' h => by
  simp only [Sem.run_pure, Result.ok.injEq] at h
  rw [← h.2]
theorem KT.bind {α β : Type} {P : Program} {m : Sem α} {f : α → Sem β} (h : KT P m) (k : ∀ a, KT P (f a)) : KT P (m >>= f) := fun W v W' hr => by
  rw [Sem.run_bind] at hr
  cases e : m.run P W with
  | ok a W1 =>
    rw [e] at hr
    exact (k a W1 v W' hr).trans (h W a W1 e)
  | halt x W1 =>
    rw [e] at hr
    cases hr
theorem KT.getObj {P : Program} (r : Nat) : KT P (getObj r) := fun W v W' h => by
  simp only [Go.getObj, Sem.run] at h
  split at h
  · cases h
  · cases h; rfl
  · cases h
theorem KT.setObj {P : Program} (r : Nat) (o : Obj) : KT P (setObj r o) := fun W v W' h => by
  simp only [Go.setObj, Sem.run] at h
  split at h
  · cases h
  · cases h; rfl
  · cases h
theorem KT.choose {P : Program} (q : Question) : KT P (choose q) := fun W v W' h => by
  simp only [Go.choose, Sem.run] at h
  split at h
  · cases h; rfl
  · cases h; rfl
theorem KT.stuck {α : Type} {P : Program} (s : String) : KT P (stuck s : Sem α) := fun W v W' h => by
  simp [Go.stuck] at h
theorem KT.unsupported {α : Type} {P : Program} (u : Unsupported) : KT P (unsupported u : Sem α) := fun W v W' h => by
  simp [Go.unsupported] at h
theorem next_tape {P : Program} (it : Value) (ty : TypeId) : KT P (Instr.next it false ty) := by
  unfold Instr.next
  split
  · refine KT.bind (KT.getObj _) fun o => ?_
    cases o
    case mapIter mm since seen last =>
      cases mm with
      | none => exact KT.pure _
      | some k =>
        refine KT.bind (KT.getObj _) fun o2 => ?_
        cases o2
        case map es clock =>
          simp only
          split
          · refine KT.bind (KT.unsupported _) fun _ => ?_
            refine KT.bind (KT.choose _) fun i => ?_
            split
            · exact KT.bind (KT.setObj _ _) fun _ => KT.pure _
            · exact KT.pure _
            · exact KT.stuck _
          · refine KT.bind (KT.choose _) fun i => ?_
            split
            · exact KT.bind (KT.setObj _ _) fun _ => KT.pure _
            · exact KT.pure _
            · exact KT.stuck _
        all_goals exact KT.stuck _
    all_goals first | exact KT.stuck _ | (simp only; exact KT.stuck _)
  · exact KT.stuck _

def goneV : Value → Bool
  | Value.agg cs => match (cs[2]? : Option Value) with
    | some (Value.bool g) => g
    | _ => false
  | _ => false
theorem goneV_ent (e : Ent) (u : Value) : goneV (entV e u) = e.gone := rfl
def notG (e : MapEntry) : MapEntry := { e with val := .int .i64 (if goneV e.val = true then 0 else 1) }
/-- How many of those that were handed out are not gone. -/
def cntB (es : List MapEntry) (seen : Array Nat) : Int := seenSum (es.map notG) seen
theorem notG_born (es : List MapEntry) : (es.map notG).map (·.born) = es.map (·.born) := by
  rw [List.map_map]; rfl
theorem cntB_none (es : List MapEntry) : cntB es #[] = 0 := seenSum_none _
theorem cntB_push (es : List MapEntry) (seen : Array Nat) (e : MapEntry) (hs : seen.contains e.born = false) (hn : (es.map (·.born)).Nodup) (he : e ∈ es) : cntB es (seen.push e.born) = cntB es seen + (if goneV e.val = true then 0 else 1) :=
  seenSum_push seen (notG e) hs (es.map notG) (by rw [notG_born]; exact hn) (List.mem_map_of_mem he)
theorem seenSum_le : ∀ (es : List MapEntry) (seen : Array Nat), 0 ≤ seenSum (es.map notG) seen ∧ seenSum (es.map notG) seen ≤ es.length
  | [], _ => by simp [seenSum]
  | x :: r, seen => by
    obtain ⟨h1, h2⟩ := seenSum_le r seen
    have e : seenSum ((x :: r).map notG) seen = (if seen.contains x.born then valOf (notG x).val else 0) + seenSum (r.map notG) seen := rfl
    have hv : 0 ≤ valOf (notG x).val ∧ valOf (notG x).val ≤ 1 := by
      unfold notG
      split <;> simp [valOf]
    rw [e, List.length_cons]
    split <;> omega
theorem cntB_all (es : Array MapEntry) (seen : Array Nat) (h : (leftOf es seen).size = 0) : cntB es.toList seen = ((es.toList.map notG).map fun e => valOf e.val).sum := by
  refine seenSum_full seen _ fun x hx => ?_
  obtain ⟨y, hy, rfl⟩ := List.mem_map.1 hx
  exact all_seen es seen h y hy
theorem count_entB : ∀ (m : List Pe) (i : Nat), (((entB i m).map notG).map fun e => valOf e.val).sum = (((m.map Prod.fst).filter fun e => !e.gone).length : Int)
  | [], _ => rfl
  | p :: r, i => by
    have ih := count_entB r (i + 1)
    simp only [entB, List.map_cons, List.sum_cons, ih, List.filter_cons]
    rcases h : p.1.gone with _ | _
    · simp [notG, goneV_ent, h, valOf]
      omega
    · simp [notG, goneV_ent, h, valOf]
theorem entB_mem : ∀ {m : List Pe} {i : Nat} {e : MapEntry}, e ∈ entB i m → ∃ p ∈ m, e.key = .string ⟨p.1.key.toArray⟩ ∧ e.val = entV p.1 p.2 ∧ i ≤ e.born ∧ e.born < i + m.length
  | [], _, _, h => by cases h
  | p :: r, i, e, h => by
    rcases List.mem_cons.1 h with rfl | h
    · exact ⟨p, by simp, rfl, rfl, Nat.le_refl _, by simp⟩
    · obtain ⟨q, hq, h1, h2, h3, h4⟩ := entB_mem h
      exact ⟨q, by simp [hq], h1, h2, by omega, by simp; omega⟩
theorem entB_born : ∀ (m : List Pe) (i : Nat), ((entB i m).map (·.born)).Nodup
  | [], _ => by simp [entB]
  | p :: r, i => by
    simp only [entB, List.map_cons, List.nodup_cons]
    refine ⟨fun h => ?_, entB_born r (i + 1)⟩
    obtain ⟨e, he, hb⟩ := List.mem_map.1 h
    obtain ⟨_, _, _, _, h3, _⟩ := entB_mem he
    omega
theorem field_gone (W : World) (a : ByteArray) (n : Int) (g : Bool) (d : Value) : (Instr.field 30 (.agg #[.string a, .int .u64 n, .bool g, d]) 2).run Try.prog W = .ok (.bool g) W := by
  kernel_rfl
/-- The step. -/
theorem next_map (w : World) (ty : TypeId) (mb : Nat) (m : List Pe) (h : MapE w mb m) (seen : Array Nat) :
    ((leftOf (entB 0 m).toArray seen).size = 0 ∧ (Instr.next (.pointer (some ⟨w.heap.size, 0, none⟩)) false ty).run Try.prog (w.alloc (.mapIter (some mb) m.length seen m.length)) = .ok (.tuple #[.bool false]) (w.alloc (.mapIter (some mb) m.length seen m.length))) ∨
    ∃ e p, e ∈ (leftOf (entB 0 m).toArray seen).toList ∧ e ∈ entB 0 m ∧ seen.contains e.born = false ∧ p ∈ m ∧ e.key = .string ⟨p.1.key.toArray⟩ ∧ e.val = entV p.1 p.2 ∧ ∃ w1 : World, w1.heap = w.heap ∧ w1.os = w.os ∧ w1.output = w.output ∧ w1.tape = w.tape ∧
      (Instr.next (.pointer (some ⟨w.heap.size, 0, none⟩)) false ty).run Try.prog (w.alloc (.mapIter (some mb) m.length seen m.length)) = .ok (.tuple #[.bool true, .string ⟨p.1.key.toArray⟩, entV p.1 p.2]) (w1.alloc (.mapIter (some mb) m.length (seen.push e.born) m.length)) ∧
      (Instr.entry (.pointer (some ⟨w.heap.size, 0, none⟩))).run Try.prog (w1.alloc (.mapIter (some mb) m.length (seen.push e.born) m.length)) = .ok (.tuple #[.string ⟨p.1.key.toArray⟩, entV p.1 p.2]) (w1.alloc (.mapIter (some mb) m.length (seen.push e.born) m.length)) := by
  have law := run_next_map (P := Try.prog) w ty mb m.length m.length seen (entB 0 m).toArray m.length h.blk (fun x hx => by
    obtain ⟨_, _, _, _, _, h4⟩ := entB_mem (show x ∈ entB 0 m by simpa using hx)
    omega) (Nat.le_refl _)
  rcases law with law | ⟨e, he, w1, hal, hrun⟩
  · exact .inl law
  · refine .inr ?_
    have hm := mem_left he
    have hme : e ∈ entB 0 m := by simpa using hm.1
    obtain ⟨p, hp, h1, h2, _, _⟩ := entB_mem hme
    have ht := next_tape _ _ _ _ _ hrun
    have hsz : w1.heap.size = w.heap.size := by rw [hal.1]
    have hen := run_entry_map (P := Try.prog) w1 mb m.length seen (entB 0 m).toArray m.length e (by rw [hal.1]; exact h.blk) hm.1 (by simpa using entB_born m 0)
    rw [hsz, h1, h2] at hen
    rw [h1, h2] at hrun
    exact ⟨e, p, he, hme, hm.2, hp, h1, h2, w1, hal.1, hal.2.1, hal.2.2, by simpa using ht, hrun, hen⟩
end Go.Proofs.Ytaomneenflkpeaa
