/-
  The walk over merge.Seen: what is seen, collected from the pieces of a list.
-/
import Derived.Test.YteclnnjijfbfoaaMgF
import Derived.Test.YteclnnjijfbfoaaRngR
namespace Go.Proofs.Yteclnnjijfbfoaa
open Go.RowKit Go.Shelf
attribute [local go_sem] Oper.semAt_some

theorem SlT.wp_append {T E : TypeId} {s b : Nat} (t : SlT T E s b) {F : Nat → Prop} {v u : Value} {n m : Nat} {xs ys : List Value} {w : World} {o : Oper} {a : Act} {K : Act → World → Prop} {Q : Exit → Act → World → Prop} (sd x : Operand)
    (hop : o.op = Op.call { callee := Callee.builtin Builtin.append, args := #[sd, x], argTypes := #[T, T] })
    (base : Nat) (hs : a.eval sd = v) (hx : a.eval x = u) (hown : w.ownsRow base E s v n xs) (hcl : Cl w F u m ys) (hm : ys.length = m * s) (hone : ∀ x ∈ ys, x.oneCell' = true)
    (hlen : n + m ≤ 68719476736) (hbase : base ≤ w.heap.size)
    (hK : ∀ v' w', w'.ownsRow base E s v' (n + m) (xs ++ ys) → w.grownBy w' v.ownBlock → (v'.ownBlock = v.ownBlock ∨ v'.ownBlock = some w.heap.size) → K (a.put o.dst v') w') : Oper.wp Try.prog o a w K Q := by
  obtain ⟨v', w', hrun, h1, h2, h3⟩ := t.append w base o.type hown hcl hm hone hlen hbase
  unfold Oper.wp
  simp [execOp, hop, resolve, invoke, builtin, hs, hx, hrun, Result.andThen]
  exact hK _ _ h1 h2 h3

/-- One more is collected: behind the append, and the store into the list's box. -/
theorem coll_add {G : Nat → Prop} {b0 B : Nat} {w X w1 : World} {pre : List TEnt} {x : TEnt} {po p9 : Option Addr} {co c9 : Nat} (hbx : Boxed X b0 26 (.slice po pre.length co))
    (hR : X.ownsRow B 33 4 (.slice po pre.length co) pre.length (cellsE (pre.map Prod.fst) (pre.map TEnt.u))) (hq : ∀ y ∈ pre, QT G y X) (hx : QT G x X) (hb : Below b0 w X) (hB : B ≤ X.heap.size) (hb0 : b0 < B)
    (ho : w1.ownsRow B 33 4 (.slice p9 (pre.length + 1) c9) (pre.length + 1) (cellsE (pre.map Prod.fst) (pre.map TEnt.u) ++ cellsE [x.1] [x.u])) (hg : X.grownBy w1 (Value.slice po pre.length co).ownBlock) :
    Coll G b0 B w (pre ++ [x]) (w1.setCell ⟨b0, 0, none⟩ (.slice p9 (pre.length + 1) c9)) ∧ KpE (fun k => k = b0) B X (w1.setCell ⟨b0, 0, none⟩ (.slice p9 (pre.length + 1) c9)) ∧ ∀ D, KeepsFrom D X (w1.setCell ⟨b0, 0, none⟩ (.slice p9 (pre.length + 1) c9)) := by
  have hb1 : Below B X w1 := (Below.refl _ X).grown hg hB (row_low hR)
  have hbx1 : w1.heap[b0]? = _ := (hb1.block b0 hb0).trans hbx
  have hkeep : ∀ {u : Value} {l : List UInt8}, OwnS G X u l → OwnS G (w1.setCell ⟨b0, 0, none⟩ (.slice p9 (pre.length + 1) c9)) u l := fun hu => hu.keep (fun j hj => by
    obtain ⟨cur, hcu⟩ := hu.1.heap hj
    have h2 : w1.heap[j]? = X.heap[j]? := hg.block j (block_lt hcu) (fun e => by
      obtain ⟨cur2, hc2⟩ := row_heap hR e.symm
      exact kind_ne hcu hc2 (by decide) rfl)
    have h3 : j ≠ b0 := kind_ne hcu hbx (by decide)
    exact (setCell_other h3 _).trans h2) (fun _ _ hs => hs)
  refine ⟨⟨.slice p9 (pre.length + 1) c9, ?_, ?_, fun y hy => ?_, ?_, ?_⟩, ?_, fun D => ?_⟩
  · have := setCell_same (off := 0) hbx1 (.slice p9 (pre.length + 1) c9)
    unfold Boxed
    simpa using this
  · have h1 := row_keep (w' := w1.setCell ⟨b0, 0, none⟩ (.slice p9 (pre.length + 1) c9)) ho fun k hk => setCell_other (fun e => by have := row_low ho k hk; omega) _
    rw [← cellsE_append _ _ _ _ (by simp)] at h1
    simpa using h1
  · rcases List.mem_append.1 hy with hy | hy
    · exact hkeep (hq y hy)
    · obtain rfl : y = x := by simpa using hy
      exact hkeep hx
  · exact (hb.trans (hb1.mono (by omega))).setCell (p := ⟨b0, 0, none⟩) (Nat.le_refl _) _
  · have := hb1.size
    simp [World.setCell]
    omega
  · exact (KpE.grown hR hg (Nat.le_refl _)).trans (KpE.setCell w1 (B0 := fun k => k = b0) rfl _)
  · exact (keeps_grown hR hg).trans (keeps_setCell _ _ _)
theorem Coll.after {G : Nat → Prop} {b0 B : Nat} {w A C : World} {pre : List TEnt} (h : Coll G b0 B w pre A) (hb : Below A.heap.size A C) (hbA : b0 ≤ A.heap.size) (hw : b0 ≤ w.heap.size) : Coll G b0 B w pre C := Coll.calm hbA hw pre A C h (Calm.of_below hb)

theorem Calm.cl {B : Nat} {A C : World} (h : Calm B A C) {F : Nat → Prop} {v : Value} {n : Nat} {xs : List Value} (hb : Cl A F v n xs) : Cl C F v n xs := by
  obtain ⟨p, cap, e, h1, h2, h3, h4, h5⟩ := hb
  refine ⟨p, cap, e, h1, h2, h3, h4, fun j x hx => ?_⟩
  obtain ⟨b, off, e2, hlt, hs, hc⟩ := h5 j x hx
  exact ⟨b, off, e2, Nat.lt_of_lt_of_le hlt h.size, hs, h.cell hc⟩
theorem Calm.en {B : Nat} {A C : World} (h : Calm B A C) {F : Nat → Prop} {v : Value} {es : List Ent} (hb : En A F v es) : En C F v es := by
  obtain ⟨us, hu⟩ := hb
  exact ⟨us, hu.len, h.cl hu.cl, fun k e u h1 h2 => h.by_ (hu.val k e u h1 h2)⟩

theorem keeps_below' {B : Nat} {A C : World} (h : Below A.heap.size A C) : KeepsFrom B A C := ⟨h.size, fun k _ _ hk _ => (h.block k (Array.getElem?_eq_some_iff.1 hk).1).trans hk⟩
theorem seen_few (up : Nat) : ∀ ps : List (List Ent), (ps.flatMap (seen1 up)).length ≤ ps.length
  | [] => by simp
  | p :: r => by
    have ih := seen_few up r
    have h1 : (seen1 up p).length ≤ 1 := by
      unfold seen1
      split
      · split <;> simp
      · simp
    rw [List.flatMap_cons, List.length_append, List.length_cons]
    omega
/-- What is collected of the pieces so far, by a function of a piece. -/
def PcC (f : List Ent → List Ent) (G : Nat → Prop) (b0 B : Nat) (w : World) (pre : List Pc) (W : World) : Prop := ∃ ts : List TEnt, ts.map Prod.fst = (pre.map Prod.fst).flatMap f ∧ Coll G b0 B w ts W

end Go.Proofs.Yteclnnjijfbfoaa
