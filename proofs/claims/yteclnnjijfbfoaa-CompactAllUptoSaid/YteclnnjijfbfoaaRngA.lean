/-
  What a sequence tells is collected: the walks over glacierlaw5.all and from, over whatever All and From do, if only the sequence keeps its contract.
-/
import Derived.Test.YteclnnjijfbfoaaRngQ
import Derived.Test.YteclnnjijfbfoaaClR
import Derived.Test.YteclnnjijfbfoaaRTb
namespace Go.Proofs.Yteclnnjijfbfoaa
open Go.RowKit Go.Shelf
attribute [local go_sem] Oper.semAt_some

theorem SlT.wpListIn_append {T E : TypeId} {s b : Nat} (t : SlT T E s b) {Fc : Fence} {d : Nat} {F : Nat → Prop} {v u : Value} {n m : Nat} {xs ys : List Value} {w : World} {ops : Array Oper} {rest : List Oper} {o : Oper} {a : Act} {Q : Exit → Act → World → Prop} (hg : o.guard = none) (sd x : Operand)
    (hop : o.op = Op.call { callee := Callee.builtin Builtin.append, args := #[sd, x], argTypes := #[T, T] })
    (base : Nat) (hs : a.eval sd = v) (hx : a.eval x = u) (hown : w.ownsRow base E s v n xs) (hcl : Cl w F u m ys) (hm : ys.length = m * s) (hone : ∀ x ∈ ys, x.oneCell' = true)
    (hlen : n + m ≤ 68719476736) (hbase : base ≤ w.heap.size)
    (hK : ∀ v' w', w'.ownsRow base E s v' (n + m) (xs ++ ys) → w.grownBy w' v.ownBlock → (v'.ownBlock = v.ownBlock ∨ v'.ownBlock = some w.heap.size) → wpListIn Fc d Try.prog ops Q rest (a.put o.dst v') w') : wpListIn Fc d Try.prog ops Q (o :: rest) a w := by
  refine wpListIn_plain hg fun K hKK => ?_
  obtain ⟨v', w', hrun, h1, h2, h3⟩ := t.append w base o.type hown hcl hm hone hlen hbase
  unfold Oper.wpIn
  refine ⟨?_, ?_⟩
  · simp [Oper.about, hop, resolve, Target.leads, Sem.run_pure]
  · rw [Oper.semAt_plain Fc _ _ (by rw [hop]; intro c hc'; cases hc')]
    simp [execOp, hop, resolve, invoke, builtin, hs, hx, hrun, Result.andThen]
    exact hKK _ _ (hK v' w' h1 h2 h3)

/-- An element as it is told: a version, and where its value's bytes lie. -/
abbrev TEnt := Ent × (Option Addr × Nat)
def TEnt.u (x : TEnt) : Value := .slice x.2.1 x.1.val.length x.2.2
def encT (x : TEnt) : Array Value := #[.agg #[.string ⟨x.1.key.toArray⟩, .int .u64 (x.1.seq : Int), .bool x.1.gone, .slice x.2.1 x.1.val.length x.2.2]]
/-- Its bytes are there, a row of bytes in a block of G. -/
def QT (G : Nat → Prop) (x : TEnt) (W : World) : Prop := OwnS G W x.u x.1.val
/-- What a round that goes on keeps: but for the loop's own boxes (B0) and for new blocks all is as it was; and of new cells, too, all but rows of entries. -/
structure KpE (B0 : Nat → Prop) (b : Nat) (A C : World) : Prop where
  fr : Fr (fun k => B0 k ∨ b ≤ k) A C
  same : ∀ (k : Nat) (cs : Array Value) (t : TypeId) (z : Nat × Nat), A.heap[k]? = some (.cells cs t z) → ¬ B0 k → t ≠ 33 → C.heap[k]? = some (.cells cs t z)
section
variable {B0 : Nat → Prop} {b : Nat} {A C D : World}
theorem KpE.trans (h : KpE B0 b A C) (k : KpE B0 b C D) : KpE B0 b A D := ⟨h.fr.then k.fr, fun i cs t z hi hn ht => k.same i cs t z (h.same i cs t z hi hn ht) hn ht⟩
theorem KpE.of_calm (h : Calm b A C) : KpE B0 b A C :=
  ⟨⟨h.os, h.tape, h.output, h.size, fun k hk hn => by
      have e1 := Array.getElem?_eq_getElem hk
      have : k < b := Nat.lt_of_not_le fun hle => hn (.inr hle)
      exact (h.same k _ e1 (.inl this)).trans e1.symm⟩, fun k cs t z hk _ _ => h.same k _ hk (.inr rfl)⟩
theorem KpE.of_below (h : Below A.heap.size A C) : KpE B0 b A C := ⟨Fr.of_new h _, fun k _ _ _ hk _ _ => (h.block k (block_lt hk)).trans hk⟩
theorem KpE.grown {base n s : Nat} {v : Value} {xs : List Value} (hr : A.ownsRow base 33 s v n xs) (hg : A.grownBy C v.ownBlock) (hb : b ≤ base) : KpE B0 b A C :=
  ⟨Fr.grown hg fun k hk => .inr (Nat.le_trans hb (row_low hr k hk)), fun k cs t z hk _ ht => (hg.block k (block_lt hk) (fun e => by
    obtain ⟨cur, hc⟩ := row_heap hr e.symm
    exact kind_ne hk hc ht rfl)).trans hk⟩
theorem KpE.setCell (A : World) {g i : Nat} (hg : B0 g) (v : Value) : KpE B0 b A (A.setCell ⟨g, i, none⟩ v) :=
  ⟨Fr.setCell _ A (p := ⟨g, i, none⟩) (.inl hg) v, fun k cs t z hk hn _ => (setCell_other (fun e => hn (by rw [e]; exact hg)) _).trans hk⟩
end
/-- What a sequence of versions es, made in Y, promises a loop whose own boxes are B0. -/
def SeqE (gf : Nat) (lb : Array Value) (es : List Ent) (G B0 : Nat → Prop) (Y : World) : Prop :=
  SeqQ Fence.wide 3 Try.prog gf lb encT (KpE B0 Y.heap.size) (QT G) (fun xs => xs.map Prod.fst = es) (fun pre => pre.map Prod.fst <+: es) es.length Y

/-- What is collected so far. -/
def Coll (G : Nat → Prop) (b0 B : Nat) (w : World) (pre : List TEnt) (W : World) : Prop :=
  ∃ v, Boxed W b0 26 v ∧ W.ownsRow B 33 4 v pre.length (cellsE (pre.map Prod.fst) (pre.map TEnt.u)) ∧ (∀ x ∈ pre, QT G x W) ∧ Below b0 w W ∧ B ≤ W.heap.size
theorem Calm.by_ {B : Nat} {A C : World} (h : Calm B A C) {F : Nat → Prop} {v : Value} {l : List UInt8} (hb : By A F v l) : By C F v l := by
  obtain ⟨p, cap, e, h1, h2, h3, h4, h5⟩ := hb
  refine ⟨p, cap, e, h1, h2, h3, h4, fun j x hx => ?_⟩
  obtain ⟨b, off, e2, hlt, hs, hc⟩ := h5 j x hx
  exact ⟨b, off, e2, Nat.lt_of_lt_of_le hlt h.size, hs, h.cell hc⟩
theorem Calm.row {B : Nat} {A C : World} (h : Calm B A C) {base n s : Nat} {e : TypeId} {v : Value} {xs : List Value} (hr : A.ownsRow base e s v n xs) : C.ownsRow base e s v n xs := by
  refine ⟨hr.1, ?_⟩
  rcases hr.2 with hn | ⟨g, cap, cur, rfl, h1, h2, h3⟩
  · exact .inl hn
  · exact .inr ⟨g, cap, cur, rfl, h1, h.same _ _ h2 (.inr rfl), h3⟩
theorem Calm.below {B b0 : Nat} {w A C : World} (h : Calm B A C) (hb : Below b0 w A) (hB : b0 ≤ B) (hw : b0 ≤ w.heap.size) : Below b0 w C :=
  ⟨h.os.trans hb.os, h.tape.trans hb.tape, h.output.trans hb.output, Nat.le_trans hb.size h.size, fun k hk => by
    have hlt : k < A.heap.size := Nat.lt_of_lt_of_le (Nat.lt_of_lt_of_le hk hw) hb.size
    have e1 : A.heap[k]? = some A.heap[k] := Array.getElem?_eq_getElem hlt
    exact (h.same k _ e1 (.inl (by omega))).trans (e1.symm.trans (hb.block k hk))⟩
theorem Calm.ownS {B : Nat} {A C : World} (h : Calm B A C) {G : Nat → Prop} {u : Value} {l : List UInt8} (hu : OwnS G A u l) : OwnS G C u l :=
  hu.keep (fun j hj => by
    obtain ⟨cur, hc⟩ := hu.1.heap hj
    exact (h.same j _ hc (.inr rfl)).trans hc.symm) (fun _ _ hs => hs)
theorem Coll.calm {G : Nat → Prop} {b0 B D : Nat} {w : World} (hB : b0 ≤ D) (hw : b0 ≤ w.heap.size) : Abd D (Coll G b0 B w) := by
  rintro pre A C ⟨v, h1, h2, h3, h4, h5⟩ hc
  exact ⟨v, hc.same _ _ h1 (.inr rfl), hc.row h2, fun x hx => hc.ownS (h3 x hx), hc.below h4 hB hw, Nat.le_trans h5 hc.size⟩
theorem keeps_grown {D base n s : Nat} {e : TypeId} {v : Value} {xs : List Value} {A C : World} (hr : A.ownsRow base e s v n xs) (hg : A.grownBy C v.ownBlock) : KeepsFrom D A C :=
  ⟨hg.size, fun k o _ hk ho => (hg.block k (Array.getElem?_eq_some_iff.1 hk).1 (fun e1 => by
    obtain ⟨cur, hc⟩ := row_heap hr e1.symm
    rw [hk] at hc
    obtain rfl := Option.some.inj hc
    cases ho)).trans hk⟩
theorem keeps_setCell {D : Nat} (A : World) (p : Addr) (v : Value) : KeepsFrom D A (A.setCell p v) := (KeepsOthers.setCell _ _ _).from _

def BoxE' (W : World) (g : Nat) (x : TEnt) : Prop := W.heap[g]? = some (.cells #[.string ⟨x.1.key.toArray⟩, .int .u64 (x.1.seq : Int), .bool x.1.gone, .slice x.2.1 x.1.val.length x.2.2] 33 (0, 0))

end Go.Proofs.Yteclnnjijfbfoaa
