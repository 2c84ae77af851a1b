/-
  A drawn region within a round of a range over a function: its first n operations only read, its others stand in one order.
-/
import Derived.Test.YteclnnjijfbfoaaRngQ
import Derived.Test.YteclnnjijfbfoaaEnC
import Derived.OrdersIn
import Derived.RegionTactic
namespace Go.Proofs.Yteclnnjijfbfoaa
open Go.RowKit

section
variable {P : Program} {ops : Array Oper} {w : World} {r m : Nat}
/-- A still operation, in a round. -/
theorem still_round {o : Oper} {a : Act} {K : Act → Prop} {K' : Act → World → Prop} {Q : Exit → Act → World → Prop} (hd : ∀ c, o.op ≠ Op.defer c) (h : ∀ a, K a → K' a w) (hh : o.still P a w K) : o.wpIn (Fence.wide.inRound r) m P a w K' Q := by
  refine ⟨fun _ _ => trivial, ?_⟩
  rw [Oper.semAt_eq _ _ _ hd]
  unfold Oper.still at hh
  cases hr : (execOp a.eval o).run P w with
  | halt x w' =>
    rw [hr] at hh
    simp only [Oper.stillUpon] at hh
  | ok n w' =>
    rw [hr] at hh
    cases n with
    | value v =>
      obtain ⟨rfl, h2⟩ := hh
      exact h _ h2
    | skip =>
      obtain ⟨rfl, h2⟩ := hh
      exact h _ h2
    | enter f args =>
      obtain ⟨rfl, v, hc, hn⟩ := hh
      have h9 := hc.mono (R' := fun (e : Ending) w'' => match e, w'' with
        | .returned v, w'' => K' (a.put o.dst v) w''
        | .panicked chain, w'' => Q (.panic chain) a w''
        | .outgrown, _ => LetsOut Q) (fun e w2 ⟨he, hw⟩ => by subst he; subst hw; exact h _ hn)
      exact ⟨(fun h => by cases h), CallsIn.inRound r (callsIn_wide.2 h9)⟩
    | _ => simp only [Oper.stillUpon] at hh
def plainOps (l : List Oper) : Bool := l.all fun o => match o.op with | .defer _ => false | _ => true
theorem plain_at {l : List Oper} (h : plainOps l = true) {i : Nat} {o : Oper} (hi : l[i]? = some o) : ∀ c, o.op ≠ Op.defer c := by
  intro c hc
  have h2 := List.all_eq_true.1 h o (List.mem_of_getElem? hi)
  rw [hc] at h2
  cases h2
theorem stOp_round {i : Nat} {a : Act} {K : Act → Prop} {K' : Act → World → Prop} {Q : Exit → Act → World → Prop} (hd : ∀ (i : Nat) (o : Oper), ops[i]? = some o → ∀ c, o.op ≠ Op.defer c) (h : ∀ a, K a → K' a w) (hh : stOp P ops w i K a) : wpOpIn (Fence.wide.inRound r) m P ops Q i K' a w := by
  unfold stOp at hh
  unfold wpOpIn
  cases ho : ops[i]? with
  | none =>
    rw [ho] at hh
    exact h _ hh
  | some o =>
    rw [ho] at hh
    dsimp only at hh ⊢
    by_cases hw : Region.wanted o (yielded ops a.tmps) = true
    · rw [if_pos hw] at hh ⊢
      exact still_round (hd i o ho) h hh
    · rw [if_neg hw] at hh ⊢
      exact ⟨fun _ _ => trivial, h _ hh⟩
theorem head_round {n g : Nat} {L : Array Bool → Act → Prop} {Q : Exit → Act → World → Prop} (hd : ∀ (i : Nat) (o : Oper), ops[i]? = some o → ∀ c, o.op ≠ Op.defer c) (hL : ∀ listed a, L listed a → wpAnyIn (Fence.wide.inRound r) m P .any ops Q g listed a w) :
    ∀ (f : Nat) (listed : Array Bool) (a : Act), wpAnyL P .any ops w n L f listed a → wpAnyIn (Fence.wide.inRound r) m P .any ops Q (f + g) listed a w := by
  intro f
  induction f with
  | zero =>
    intro listed a h
    rw [Nat.zero_add]
    exact hL _ _ h
  | succ f ih =>
    intro listed a h
    rw [show f + 1 + g = (f + g) + 1 by omega]
    refine ⟨fun h0 => absurd h0 h.1, fun i hi => ?_⟩
    exact stOp_round hd (fun a' h' => ih _ a' h') (h.2 i hi).2
theorem seq_round {Q : Exit → Act → World → Prop} : ∀ (l : List Oper) (k : Nat) (listed : Array Bool) (a : Act) (w : World), (∀ j, l[j]? = ops[k + j]?) →
    Region.seqB .any ops l.length k listed = true → wpListIn (Fence.wide.inRound r) m P ops Q l a w → wpAnyIn (Fence.wide.inRound r) m P .any ops Q l.length listed a w := by
  intro l
  induction l with
  | nil =>
    intro k listed a w _ hB h
    refine ⟨?_, h⟩
    simpa [Region.seqB] using hB
  | cons o l ih =>
    intro k listed a w hl hB h
    have h0 : ops[k]? = some o := by simpa using (hl 0).symm
    simp only [List.length_cons, Region.seqB, Bool.and_eq_true, decide_eq_true_eq] at hB
    obtain ⟨hr, hB2⟩ := hB
    refine ⟨(fun h1 => by rw [hr] at h1; cases h1), fun i hi => ?_⟩
    rw [hr] at hi
    obtain rfl : i = k := by simpa using hi
    have hl2 : ∀ j, l[j]? = ops[i + 1 + j]? := fun j => by
      have := hl (j + 1)
      rw [show i + (j + 1) = i + 1 + j by omega] at this
      simpa using this
    have hn : ∀ a' w', wpListIn (Fence.wide.inRound r) m P ops Q l a' w' → wpAnyIn (Fence.wide.inRound r) m P .any ops Q l.length (listed.setIfInBounds i true) a' w' := fun a' w' h' => ih (i + 1) _ a' w' hl2 hB2 h'
    unfold wpListIn at h
    unfold wpOpIn
    rw [h0]
    dsimp only
    by_cases hw : Region.wanted o (yielded ops a.tmps) = true
    · rw [if_pos hw] at h ⊢
      exact Oper.wpIn_mono hn h
    · rw [if_neg hw] at h ⊢
      exact ⟨h.1, hn _ _ h.2⟩
end
/-- In a round: a region whose first n operations only read (some of them behind guards), and whose others stand in one order. -/
theorem round_quiet_tail {P : Program} {id r m : Nat} {Q : Exit → Act → World → Prop} {a : Act} {w : World} {l : List Oper} (n : Nat) (hm : P.follows .mixedOrders = true) (hB : Region.lexTailB .any l.toArray n = true) (hp : plainOps l = true)
    (h : wpQuiet P l.toArray (fun w' => w' = w.drew) (fun a' => wpListIn (Fence.wide.inRound r) m P l.toArray Q (l.drop n) a' w.drew) (l.take n) a) : (Code.region id l.toArray true).wpIn (Fence.wide.inRound r) m P Q a w := by
  have hs := still_of_quiet _ _ h
  have hd : ∀ (i : Nat) (o : Oper), l.toArray[i]? = some o → ∀ c, o.op ≠ Op.defer c := fun i o hi => plain_at hp (by simpa using hi)
  unfold Region.lexTailB at hB
  simp only [Bool.and_eq_true, decide_eq_true_eq] at hB
  obtain ⟨⟨⟨⟨hsel, hn⟩, hsk⟩, hch⟩, hlex⟩ := hB
  have hnl : n < l.length := by simpa using hn
  have h1 : (l.take n).length = n := by rw [List.length_take]; omega
  have h2 : (l.drop n).length = l.toArray.size - n := by simp
  have hInv : HeadInv .any l.toArray n (Array.replicate l.toArray.size false) := by
    refine ⟨by simp, fun j oj _ hl => ?_, fun t _ ht => getD_in (by simpa using ht) (getD_replicate_false _ _)⟩
    rw [getD_replicate_false] at hl
    cases hl
  have hL := wpAnyL_lex (md := .any) (g := l.toArray.size - n) hsel hsk hch hn (l.take n) 0 _ a (fun j hj => by
    rw [h1] at hj
    simp [hj]) (by simpa using h1) hInv (by rw [h1]; exact hlex) hs
  have hA := head_round (g := l.toArray.size - n) (r := r) (m := m) (Q := Q) hd (fun listed a' hx => by
    have hq := seq_round (P := P) (ops := l.toArray) (r := r) (m := m) (Q := Q) (l.drop n) n listed a' w.drew (fun j => by simp [List.getElem?_drop]) (by rw [h2]; exact hx.1) hx.2
    rw [h2] at hq
    exact hq) _ _ _ hL
  rw [h1, show n + (l.toArray.size - n) = l.toArray.size by omega] at hA
  exact wpIn_region_any hm hA
/-- The ways that go on. -/
def OnlyN (Q : Exit → Act → World → Prop) : Exit → Act → World → Prop := fun e a w => e = .normal ∧ Q e a w
theorem upon_round {P : Program} {r m : Nat} {o : Oper} {a : Act} {K K' : Act → World → Prop} {Q : Exit → Act → World → Prop} (hK : ∀ a w, K a w → K' a w) {x : Result Next} (h : o.upon P a K (OnlyN Q) x) : o.uponIn (Fence.wide.inRound r) m P a K' Q x := by
  cases x with
  | halt y w' =>
    cases y with
    | panic v => cases h.1
    | _ => simp only [Oper.upon] at h
  | ok n w' =>
    cases n with
    | value v => exact hK _ _ h
    | skip => exact hK _ _ h
    | defer d => exact hK _ _ h
    | enter f args =>
      have h9 := Calls.mono (R' := fun (e : Ending) w'' => match e, w'' with
        | .returned v, w'' => K' (a.put o.dst v) w''
        | .panicked chain, w'' => Q (.panic chain) a w''
        | .outgrown, _ => LetsOut Q) h (fun e w2 he => by
          cases e with
          | returned v => exact hK _ _ he
          | panicked c => cases he.1
          | outgrown =>
            obtain ⟨a1, w1, h1⟩ := he
            cases h1.1)
      exact ⟨(fun h => by cases h), CallsIn.inRound r (callsIn_wide.2 h9)⟩
    | row nm args =>
      refine ⟨(fun h => by cases h), fun c cs _ => ?_⟩
      obtain ⟨v, w2, h1, h2⟩ := h c cs
      exact ⟨v, w2, hK _ _ h1, stepsIn_wide.2 h2⟩
    | _ => simp only [Oper.upon] at h
theorem any_round {P : Program} {ops : Array Oper} {r m : Nat} {Q : Exit → Act → World → Prop} (hd : ∀ (i : Nat) (o : Oper), ops[i]? = some o → ∀ c, o.op ≠ Op.defer c) :
    ∀ (fuel : Nat) (listed : Array Bool) (a : Act) (w : World), wpAny P .any ops (OnlyN Q) fuel listed a w → wpAnyIn (Fence.wide.inRound r) m P .any ops Q fuel listed a w := by
  intro fuel
  induction fuel with
  | zero =>
    intro listed a w h
    exact ⟨h.1, h.2.2⟩
  | succ fuel ih =>
    intro listed a w h
    refine ⟨fun h0 => (h.1 h0).2, fun i hi => ?_⟩
    have h2 := h.2 i hi
    unfold wpOp at h2
    unfold wpOpIn
    cases ho : ops[i]? with
    | none =>
      rw [ho] at h2
      exact ih _ _ _ h2
    | some o =>
      rw [ho] at h2
      dsimp only at h2 ⊢
      by_cases hw : Region.wanted o (yielded ops a.tmps) = true
      · rw [if_pos hw] at h2 ⊢
        rcases h2 with h2 | ⟨_, a1, w1, h1⟩
        · refine ⟨fun _ _ => trivial, ?_⟩
          rw [Oper.semAt_eq _ _ _ (hd i o ho)]
          exact upon_round (ih _) h2
        · cases h1.1
      · rw [if_neg hw] at h2 ⊢
        exact ⟨fun _ _ => trivial, ih _ _ _ h2⟩
/-- In a round: a drawn region, by all its orders. -/
theorem region_round {P : Program} {id r m : Nat} {Q : Exit → Act → World → Prop} {a : Act} {w : World} {l : List Oper} (hm : P.follows .mixedOrders = true) (hp : plainOps l = true)
    (h : wpAny P .any l.toArray (OnlyN Q) l.toArray.size (Array.replicate l.toArray.size false) a w.drew) : (Code.region id l.toArray true).wpIn (Fence.wide.inRound r) m P Q a w :=
  wpIn_region_any hm (any_round (fun i o hi => plain_at hp (by simpa using hi)) _ _ _ _ h)
end Go.Proofs.Yteclnnjijfbfoaa
