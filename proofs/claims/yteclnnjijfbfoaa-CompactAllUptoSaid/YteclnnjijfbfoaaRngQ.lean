/-
  A range over a function, where the round is told what holds of the element it is handed: 'SeqQ': the contract of a sequence; 'range_q': the statement.
-/
import Derived.Test.YteclnnjijfbfoaaEnB
import Derived.RangeFuncNested
import Derived.RangeFuncBound
import Derived.RangeFuncCalls
import Derived.RangeFuncLeaves
import Derived.Shelf.Abstract
import Derived.OwnWalkIn
import Derived.TacticsInMore
import Derived.LoopNIn
import Derived.LoopIn
namespace Go.Proofs.Yteclnnjijfbfoaa
open Go.RowKit

/-- From block B on what holds no cells may have changed, and there may be more; all else is as it was. -/
structure Calm (B : Nat) (A C : World) : Prop where
  os : C.os = A.os
  tape : C.tape = A.tape
  output : C.output = A.output
  size : A.heap.size ≤ C.heap.size
  same : ∀ (k : Nat) (o : Obj), A.heap[k]? = some o → (k < B ∨ o.isCells = true) → C.heap[k]? = some o
section
variable {B : Nat} {A C D : World}
theorem Calm.of_below (h : Below A.heap.size A C) : Calm B A C := ⟨h.os, h.tape, h.output, h.size, fun k _ hk _ => (h.block k (Array.getElem?_eq_some_iff.1 hk).1).trans hk⟩
theorem Calm.trans (h : Calm B A C) (k : Calm B C D) : Calm B A D := ⟨k.os.trans h.os, k.tape.trans h.tape, k.output.trans h.output, Nat.le_trans h.size k.size, fun i o hi ho => k.same i o (h.same i o hi ho) ho⟩
theorem Calm.put {l : Nat} {o : Obj} (o' : Obj) (hl : B ≤ l) (h : A.heap[l]? = some o) (ho : o.isCells = false) : Calm B A (A.putObj l o') := by
  refine ⟨rfl, rfl, rfl, by simp, fun k x hk hx => ?_⟩
  by_cases e : k = l
  · subst e
    rw [h] at hk
    obtain rfl := Option.some.inj hk
    rcases hx with hx | hx
    · omega
    · rw [ho] at hx; cases hx
  · exact (World.putObj_heap_other e).trans hk
theorem Calm.cell (h : Calm B A C) {a : Addr} {v : Value} (hc : A.cell? a = some v) : C.cell? a = some v := by
  rw [← hc]
  cases ho : A.heap[a.block]? with
  | none => simp [World.cell?, ho] at hc
  | some o =>
    cases o with
    | cells cs t fz => exact World.cell?_of_block ((h.same _ _ ho (.inr rfl)).trans ho.symm)
    | _ => simp [World.cell?, ho] at hc
end
theorem Calm.le {B B' : Nat} {A C : World} (h : Calm B' A C) (hB : B ≤ B') : Calm B A C := ⟨h.os, h.tape, h.output, h.size, fun k o hk ho => h.same k o hk (ho.imp (fun h => Nat.lt_of_lt_of_le h hB) id)⟩
theorem keeps_put {B l : Nat} (hl : l < B) (A : World) (o : Obj) : KeepsFrom B A (A.putObj l o) := ⟨by simp, fun k x hk hx _ => (World.putObj_heap_other (by omega)).trans hx⟩
theorem keeps_le {B B' : Nat} {A C : World} (h : KeepsFrom B A C) (hB : B ≤ B') : KeepsFrom B' A C := ⟨h.size, fun k o hk ho hc => h.same k o (Nat.le_trans hB hk) ho hc⟩
/-- J outlasts what is calm. -/
def Abd {β : Type} (B : Nat) (J : β → World → Prop) : Prop := ∀ s A C, J s A → Calm B A C → J s C

/-- The contract of a sequence: called, in whatever later world, with the yield of whatever loop, it hands elements of which Q holds when they are handed; the caller's J and Jx mind no new memory. -/
def SeqQ {α : Type} (F : Fence) (n : Nat) (P : Program) (g : Nat) (lb : Array Value) (encs : α → Array Value) (Kp : World → World → Prop) (Qx : α → World → Prop) (S Sp : List α → Prop) (N : Nat) (w : World) : Prop :=
  ∀ (l : Nat) (J Jx : List α → World → Prop) (W : World), Below w.heap.size w W → Abd W.heap.size J → Abd W.heap.size Jx →
    (∀ pre x X, J pre X → Qx x X → pre.length < N → YieldAt F (n - 1) P l (encs x) X fun e Y =>
      (e = .returned (.bool true) ∧ J (pre ++ [x]) Y ∧ Kp X Y ∧ KeepsFrom W.heap.size X Y) ∨ (e = .returned (.bool false) ∧ Jx (pre ++ [x]) Y ∧ KeepsFrom W.heap.size X Y)) →
    J [] W →
    CallsIn F n P g (#[.func (.yield l) #[] #[]] ++ lb) W fun e Y => (∃ v, e = .returned v) ∧ ((∃ xs, S xs ∧ J xs Y) ∨ (∃ pre, Sp pre ∧ Jx pre Y))

/-- The record of a loop. -/
def lpR (fn : FuncId) (tmps : Array Value) (ps : Array Tmp) (assign body : Code) (D : Nat) (st : LoopState) (pe : Option Code) : Loop :=
  { state := st, pending := pe, fn := fn, tmps := tmps, params := ps, assign := assign, body := body, defers := D }

section
variable {F : Fence} {n : Nat} {P : Program} {α : Type} {ps : Array Tmp} {assign body : Code} {w : World} {tmps : Array Value}
  {encs : α → Array Value} {Kp : World → World → Prop} {Qx : α → World → Prop} {I : List α → World → Prop} {Ix : Code → List α → World → Prop} {Ax : α → Act → World → Prop} {N : Nat} {fn : FuncId}

/-- The book-keeping of a loop stands: its record at l, the block for deferred calls at D. -/
structure Bk (l D : Nat) (r : Loop) (W : World) : Prop where
  rc : W.heap[l]? = some (.loop r)
  df : W.heap[D]? = some (.deferred (some []))
theorem Bk.keep {l D B : Nat} {r : Loop} {W V : World} (h : Bk l D r W) (hk : KeepsFrom B W V) (h1 : B ≤ l) (h2 : B ≤ D) : Bk l D r V := ⟨hk.same _ _ h1 h.rc rfl, hk.same _ _ h2 h.df rfl⟩
theorem Bk.put {l D : Nat} {r : Loop} {W : World} (h : Bk l D r W) (hne : D ≠ l) (r' : Loop) : Bk l D r' (W.putObj l (.loop r')) :=
  ⟨World.putObj_heap_same (Array.getElem?_eq_some_iff.1 h.rc).1, (World.putObj_heap_other hne).trans h.df⟩
theorem Bk.calm {l D B : Nat} {r : Loop} {W : World} (h : Bk l D r W) (hl : B ≤ l) (o : Obj) : Calm B W (W.putObj l o) := Calm.put o hl h.rc rfl

/-- One round, from the walks over the assignment and the body. -/
theorem round_q {B B2 l D m : Nat} (hB2 : B ≤ B2) (hl2 : l < B2) (hfn : F.fn fn) (hl : B ≤ l) (hD : B ≤ D) (hne : D ≠ l) (hps : ∀ x, (encs x).size = ps.size) (hKt : ∀ {A C E : World}, Kp A C → Kp C E → Kp A E) (hKc : ∀ {A C : World}, Calm B A C → Kp A C)
    (hI : Abd B I) (hIx : ∀ c, Abd B (Ix c)) (hAx : ∀ x a', Abd B (fun (_ : Unit) W => Ax x a' W)) (pre : List α) (x : α) (W : World) (hlen : pre.length < N)
    (hassign : ∀ (K : Act → World → Prop), (∀ a' V, KeepsFrom B W V → Kp W V → I pre V → Ax x a' V → K a' V) →
      assign.wpIn (F.inRound l) m P (Exit.then K (fun _ _ _ => False)) { tmps := (ps.zip (encs x)).foldl (fun t (p, v) => t.setIfInBounds p v) tmps, defers := [] } W)
    (hbody : ∀ (a' : Act) (V : World), I pre V → Ax x a' V → pre.length < N → body.wpIn (F.inRound l) m P (ownPostG B Kp I Ix (pre ++ [x]) V) a' V)
    (hb : Bk l D (lpR fn tmps ps assign body D .ready none) W) :
    YieldAt F m P l (encs x) W fun e Y =>
      (e = .returned (.bool true) ∧ (I (pre ++ [x]) Y ∧ Bk l D (lpR fn tmps ps assign body D .ready none) Y) ∧ Kp W Y ∧ KeepsFrom B2 W Y) ∨
      (e = .returned (.bool false) ∧ (∃ c, Ix c (pre ++ [x]) Y ∧ Bk l D (lpR fn tmps ps assign body D .done (some c)) Y) ∧ KeepsFrom B2 W Y) := by
  refine ⟨fn, _, assign, body, run_yield hb.rc (hps x), roundIn_of_wpIn hfn (hassign _ fun a' V hkV hKV hiV haV => ?_)⟩
  have hbV := hb.keep hkV hl hD
  refine ⟨_, run_beginRound hbV.rc rfl, ?_⟩
  have hbusy := hbV.put hne { lpR fn tmps ps assign body D .ready none with state := .busy }
  have hc1 := hbV.calm hl (.loop { lpR fn tmps ps assign body D .ready none with state := .busy })
  have hkk := (keeps_le hkV hB2).trans (keeps_put hl2 V (.loop { lpR fn tmps ps assign body D .ready none with state := .busy }))
  refine wpIn_mono (hbody a' _ (hI _ _ _ hiV hc1) (hAx x a' () _ _ haV hc1) hlen) fun e a3 Y hp => ?_
  cases e with
  | normal =>
    obtain ⟨hk, hkp, hi⟩ := hp
    have hbY := hbusy.keep hk hl hD
    exact ⟨_, _, run_endRound none hbY.rc, .inl ⟨rfl, ⟨hI _ _ _ hi (hbY.calm hl _), hbY.put hne _⟩, hKt hKV (hKt (hKc hc1) (hKt hkp (hKc (hbY.calm hl _)))), (hkk.trans (keeps_le hk hB2)).trans (keeps_put hl2 _ _)⟩⟩
  | ret =>
    obtain ⟨hk, hi⟩ := hp
    have hbY := hbusy.keep hk hl hD
    exact ⟨_, _, run_endRound (some .ret) hbY.rc, .inr ⟨rfl, ⟨.ret, hIx _ _ _ _ hi (hbY.calm hl _), hbY.put hne _⟩, (hkk.trans (keeps_le hk hB2)).trans (keeps_put hl2 _ _)⟩⟩
  | exit id =>
    obtain ⟨hk, hi⟩ := hp
    have hbY := hbusy.keep hk hl hD
    exact ⟨_, _, run_endRound (some (.exit id)) hbY.rc, .inr ⟨rfl, ⟨.exit id, hIx _ _ _ _ hi (hbY.calm hl _), hbY.put hne _⟩, (hkk.trans (keeps_le hk hB2)).trans (keeps_put hl2 _ _)⟩⟩
  | goto t =>
    obtain ⟨hk, hi⟩ := hp
    have hbY := hbusy.keep hk hl hD
    exact ⟨_, _, run_endRound (some (.goto t)) hbY.rc, .inr ⟨rfl, ⟨.goto t, hIx _ _ _ _ hi (hbY.calm hl _), hbY.put hne _⟩, (hkk.trans (keeps_le hk hB2)).trans (keeps_put hl2 _ _)⟩⟩
  | panic ch => exact hp.elim
  | outgrown => exact hp.elim

/-- The statement 'for .. := range g { .. }', outside every round. -/
theorem range_q {g : Operand} {Q : Exit → Act → World → Prop} {a : Act} (hro : F.round = none) (h1 : 1 ≤ n) {gf : Nat} {lb : Array Value} (hg : a.eval g = .func (.func gf) #[] lb) (hFg : F.fn gf)
    (eg : ∀ args w, (callFunc gf args).run P w = .ok (.enter gf args) w) {S Sp : List α → Prop} (hseq : SeqQ F (n - 1) P gf lb encs Kp Qx S Sp N w) (hps : ∀ x, (encs x).size = ps.size)
    (hKt : ∀ {A C E : World}, Kp A C → Kp C E → Kp A E) (hKc : ∀ {A C : World}, Calm w.heap.size A C → Kp A C)
    (I : List α → World → Prop) (Ix : Code → List α → World → Prop) (hI : Abd w.heap.size I) (hIx : ∀ c, Abd w.heap.size (Ix c)) (h0 : I [] w) (Ax : α → Act → World → Prop) (hAx : ∀ x a', Abd w.heap.size (fun (_ : Unit) W => Ax x a' W))
    (hassign : ∀ (l : Nat) (pre : List α) (x : α) (W : World) (K : Act → World → Prop), I pre W → Qx x W → (∀ a' V, KeepsFrom w.heap.size W V → Kp W V → I pre V → Ax x a' V → K a' V) →
      assign.wpIn (F.inRound l) (n - 1 - 1) P (Exit.then K (fun _ _ _ => False)) { tmps := (ps.zip (encs x)).foldl (fun t (p, v) => t.setIfInBounds p v) a.tmps, defers := [] } W)
    (hbody : ∀ (l : Nat) (pre : List α) (x : α) (a' : Act) (W : World), I pre W → Ax x a' W → pre.length < N → body.wpIn (F.inRound l) (n - 1 - 1) P (ownPostG w.heap.size Kp I Ix (pre ++ [x]) W) a' W)
    (hdone : ∀ (D : Nat) (xs : List α) (W : World), w.heap.size ≤ D → S xs → I xs W → W.heap[D]? = some (.deferred (some [])) → Q .normal { a with defers := { target := .collected D, args := #[] } :: a.defers } W)
    (hstop : ∀ (D : Nat) (c : Code) (pre : List α) (W : World), w.heap.size ≤ D → Sp pre → Ix c pre W → W.heap[D]? = some (.deferred (some [])) → c.wpIn F n P Q { a with defers := { target := .collected D, args := #[] } :: a.defers } W) :
    (Code.rangeFunc g ps assign body).wpIn F n P Q a w := by
  refine wpIn_rangeFunc fun fn hfn => ?_
  obtain ⟨V, hV⟩ : ∃ V, (w.alloc (.deferred (some []))).alloc (.loop (lpR fn a.tmps ps assign body w.heap.size .ready none)) = V := ⟨_, rfl⟩
  have hbV : Bk (w.heap.size + 1) w.heap.size (lpR fn a.tmps ps assign body w.heap.size .ready none) V := by
    rw [← hV]
    refine ⟨?_, (Below.heap_alloc _ _ _ (by simp)).trans (World.alloc_heap_new w _)⟩
    have := World.alloc_heap_new (w.alloc (.deferred (some []))) (.loop (lpR fn a.tmps ps assign body w.heap.size .ready none))
    rwa [World.size_alloc] at this
  have hbw : Below w.heap.size w V := by rw [← hV]; exact ((Below.refl _ w).alloc (Nat.le_refl _) _).alloc (by simp) _
  have hne : w.heap.size ≠ w.heap.size + 1 := by omega
  have hle : w.heap.size ≤ w.heap.size + 1 := by omega
  have hVs : V.heap.size = w.heap.size + 2 := by rw [← hV]; simp
  have bk : ∀ {r : Loop} {A C : World}, Bk (w.heap.size + 1) w.heap.size r A → Calm V.heap.size A C → Bk (w.heap.size + 1) w.heap.size r C := fun h hb =>
    ⟨hb.same _ _ h.rc (.inl (by omega)), hb.same _ _ h.df (.inl (by omega))⟩
  have hcall := hseq (w.heap.size + 1) (fun pre W => I pre W ∧ Bk (w.heap.size + 1) w.heap.size (lpR fn a.tmps ps assign body w.heap.size .ready none) W)
    (fun pre W => ∃ c, Ix c pre W ∧ Bk (w.heap.size + 1) w.heap.size (lpR fn a.tmps ps assign body w.heap.size .done (some c)) W) V hbw
    (fun s A C h hb => ⟨hI s A C h.1 (hb.le (by omega)), bk h.2 hb⟩) (fun s A C ⟨c, h, k⟩ hb => ⟨c, hIx c s A C h (hb.le (by omega)), bk k hb⟩)
    (fun pre x X h hq hlen => round_q (Kp := Kp) (N := N) (Ax := Ax) (B := w.heap.size) (B2 := V.heap.size) (by omega) (by omega) hfn hle (Nat.le_refl _) hne hps (fun h k => hKt h k) (fun h => hKc h) hI hIx hAx pre x X hlen (fun K hK => hassign _ pre x X K h.1 hq hK) (fun a' W hi ha hl => hbody _ pre x a' W hi ha hl) h.2)
    ⟨hI [] w V h0 (.of_below hbw), hbV⟩
  refine ⟨w.heap.size + 1, [{ target := .collected w.heap.size, args := #[] }], V, { target := .fn (.func gf) lb, args := #[.func (.yield (w.heap.size + 1)) #[] #[]] }, V, gf, _, V, ?_, ?_, ?_, ?_, fun _ => h1, hcall.mono ?_⟩
  · rw [hro, ← hV]
    exact run_enterLoop_outer _ _ _ _ _
  · simp only [resolve, hg]
    simp [go_sem]
  · intro f' hf'
    simp [Target.leads] at hf'
    exact hf' ▸ hFg
  · simp [invoke, go_sem, eg]
  · rintro e Y ⟨⟨v, rfl⟩, ⟨xs, hS, hi, hb⟩ | ⟨pre, hS, c, hi, hb⟩⟩
    · exact ⟨none, _, run_endLoop hb.rc (by simp [lpR]), hdone _ xs _ (Nat.le_refl _) hS (hI _ _ _ hi (hb.calm hle _)) (World.putObj_heap_other hne |>.trans hb.df)⟩
    · exact ⟨some c, _, run_endLoop hb.rc (by simp [lpR]), hstop _ c pre _ (Nat.le_refl _) hS (hIx c _ _ _ hi (hb.calm hle _)) (World.putObj_heap_other hne |>.trans hb.df)⟩
end
end Go.Proofs.Yteclnnjijfbfoaa
