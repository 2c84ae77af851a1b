/-
  What a sequence tells is collected: the walks over glacierlaw5.all and from, over whatever All and From do, if only the sequence keeps its contract.
-/
import Derived.Test.YtdmjkejadaienaaRngQ
import Derived.Test.YtdmjkejadaienaaClR
import Derived.Test.YtdmjkejadaienaaRTb
namespace Go.Proofs.Ytdmjkejadaienaa
open Go.RowKit Go.Shelf
attribute [local go_sem] Oper.semAt_some

theorem SlT.wpListIn_append {T E : TypeId} {s b : Nat} (t : SlT T E s b) {Fc : Fence} {d : Nat} {F : Nat → Prop} {v u : Value} {n m : Nat} {xs ys : List Value} {w : World} {ops : Array Oper} {rest : List Oper} {o : Oper} {a : Act} {Q : Exit → Act → World → Prop} (hg : o.guard = none) (sd x : Operand)
    (hop : o.op = Op.call { callee := Callee.builtin Builtin.append, args := #[sd, x], argTypes := #[T, T] })
    (base : Nat) (hs : a.eval sd = v) (hx : a.eval x = u) (hown : w.ownsRow base E s v n xs) (hcl : Cl w F u m ys) (hm : ys.length = m * s) (hone : ∀ x ∈ ys, x.oneCell' = true)
    (hlen : n + m ≤ 68719476736) (hbase : base ≤ w.heap.size)
    (hK : ∀ v' w', w'.ownsRow base E s v' (n + m) (xs ++ ys) → w.grownBy w' v.ownBlock → (v'.ownBlock = v.ownBlock ∨ v'.ownBlock = some w.heap.size) → wpListIn Fc d Try.prog ops Q rest (a.put o.dst v') w') : wpListIn Fc d Try.prog ops Q (o :: rest) a w := by
  refine wpListIn_plain hg fun K hKK => ?_
  obtain ⟨v', w', hrun, h1, h2, h3⟩ := t.append w base o.type hown hcl hm hone hlen hbase
  unfold Oper.wpIn
  refine ⟨?_, ?_⟩
  · simp [Oper.about, hop, resolve, Target.leads, Sem.run_pure]
  · rw [Oper.semAt_plain Fc _ _ (by rw [hop]; intro c hc'; cases hc')]
    simp [execOp, hop, resolve, invoke, builtin, hs, hx, hrun, Result.andThen]
    exact hKK _ _ (hK v' w' h1 h2 h3)

/-- An element as it is told: a version, and where its value's bytes lie. -/
abbrev TEnt := Ent × (Option Addr × Nat)
def TEnt.u (x : TEnt) : Value := .slice x.2.1 x.1.val.length x.2.2
def encT (x : TEnt) : Array Value := #[.agg #[.string ⟨x.1.key.toArray⟩, .int .u64 (x.1.seq : Int), .bool x.1.gone, .slice x.2.1 x.1.val.length x.2.2]]
/-- Its bytes are there, a row of bytes in a block of G. -/
def QT (G : Nat → Prop) (x : TEnt) (W : World) : Prop := OwnS G W x.u x.1.val
/-- What a round that goes on keeps: but for the loop's own boxes (B0) and for new blocks all is as it was; and of new cells, too, all but rows of entries. -/
structure KpE (B0 : Nat → Prop) (b : Nat) (A C : World) : Prop where
  fr : Fr (fun k => B0 k ∨ b ≤ k) A C
  same : ∀ (k : Nat) (cs : Array Value) (t : TypeId) (z : Nat × Nat), A.heap[k]? = some (.cells cs t z) → ¬ B0 k → t ≠ 35 → C.heap[k]? = some (.cells cs t z)
section
variable {B0 : Nat → Prop} {b : Nat} {A C D : World}
theorem KpE.trans (h : KpE B0 b A C) (k : KpE B0 b C D) : KpE B0 b A D := ⟨h.fr.then k.fr, fun i cs t z hi hn ht => k.same i cs t z (h.same i cs t z hi hn ht) hn ht⟩
theorem KpE.of_calm (h : Calm b A C) : KpE B0 b A C :=
  ⟨⟨h.os, h.tape, h.output, h.size, fun k hk hn => by
      have e1 := Array.getElem?_eq_getElem hk
      have : k < b := Nat.lt_of_not_le fun hle => hn (.inr hle)
      exact (h.same k _ e1 (.inl this)).trans e1.symm⟩, fun k cs t z hk _ _ => h.same k _ hk (.inr rfl)⟩
theorem KpE.of_below (h : Below A.heap.size A C) : KpE B0 b A C := ⟨Fr.of_new h _, fun k _ _ _ hk _ _ => (h.block k (block_lt hk)).trans hk⟩
theorem KpE.grown {base n s : Nat} {v : Value} {xs : List Value} (hr : A.ownsRow base 35 s v n xs) (hg : A.grownBy C v.ownBlock) (hb : b ≤ base) : KpE B0 b A C :=
  ⟨Fr.grown hg fun k hk => .inr (Nat.le_trans hb (row_low hr k hk)), fun k cs t z hk _ ht => (hg.block k (block_lt hk) (fun e => by
    obtain ⟨cur, hc⟩ := row_heap hr e.symm
    exact kind_ne hk hc ht rfl)).trans hk⟩
theorem KpE.setCell (A : World) {g i : Nat} (hg : B0 g) (v : Value) : KpE B0 b A (A.setCell ⟨g, i, none⟩ v) :=
  ⟨Fr.setCell _ A (p := ⟨g, i, none⟩) (.inl hg) v, fun k cs t z hk hn _ => (setCell_other (fun e => hn (by rw [e]; exact hg)) _).trans hk⟩
end
/-- What a sequence of versions es, made in Y, promises a loop whose own boxes are B0. -/
def SeqE (gf : Nat) (lb : Array Value) (es : List Ent) (G B0 : Nat → Prop) (Y : World) : Prop :=
  SeqQ Fence.wide 3 Try.prog gf lb encT (KpE B0 Y.heap.size) (QT G) (fun xs => xs.map Prod.fst = es) (fun pre => pre.map Prod.fst <+: es) es.length Y

/-- What is collected so far. -/
def Coll (G : Nat → Prop) (b0 B : Nat) (w : World) (pre : List TEnt) (W : World) : Prop :=
  ∃ v, Boxed W b0 23 v ∧ W.ownsRow B 35 4 v pre.length (cellsE (pre.map Prod.fst) (pre.map TEnt.u)) ∧ (∀ x ∈ pre, QT G x W) ∧ Below b0 w W ∧ B ≤ W.heap.size
theorem Calm.by_ {B : Nat} {A C : World} (h : Calm B A C) {F : Nat → Prop} {v : Value} {l : List UInt8} (hb : By A F v l) : By C F v l := by
  obtain ⟨p, cap, e, h1, h2, h3, h4, h5⟩ := hb
  refine ⟨p, cap, e, h1, h2, h3, h4, fun j x hx => ?_⟩
  obtain ⟨b, off, e2, hlt, hs, hc⟩ := h5 j x hx
  exact ⟨b, off, e2, Nat.lt_of_lt_of_le hlt h.size, hs, h.cell hc⟩
theorem Calm.row {B : Nat} {A C : World} (h : Calm B A C) {base n s : Nat} {e : TypeId} {v : Value} {xs : List Value} (hr : A.ownsRow base e s v n xs) : C.ownsRow base e s v n xs := by
  refine ⟨hr.1, ?_⟩
  rcases hr.2 with hn | ⟨g, cap, cur, rfl, h1, h2, h3⟩
  · exact .inl hn
  · exact .inr ⟨g, cap, cur, rfl, h1, h.same _ _ h2 (.inr rfl), h3⟩
theorem Calm.below {B b0 : Nat} {w A C : World} (h : Calm B A C) (hb : Below b0 w A) (hB : b0 ≤ B) (hw : b0 ≤ w.heap.size) : Below b0 w C :=
  ⟨h.os.trans hb.os, h.tape.trans hb.tape, h.output.trans hb.output, Nat.le_trans hb.size h.size, fun k hk => by
    have hlt : k < A.heap.size := Nat.lt_of_lt_of_le (Nat.lt_of_lt_of_le hk hw) hb.size
    have e1 : A.heap[k]? = some A.heap[k] := Array.getElem?_eq_getElem hlt
    exact (h.same k _ e1 (.inl (by omega))).trans (e1.symm.trans (hb.block k hk))⟩
theorem Calm.ownS {B : Nat} {A C : World} (h : Calm B A C) {G : Nat → Prop} {u : Value} {l : List UInt8} (hu : OwnS G A u l) : OwnS G C u l :=
  hu.keep (fun j hj => by
    obtain ⟨cur, hc⟩ := hu.1.heap hj
    exact (h.same j _ hc (.inr rfl)).trans hc.symm) (fun _ _ hs => hs)
theorem Coll.calm {G : Nat → Prop} {b0 B D : Nat} {w : World} (hB : b0 ≤ D) (hw : b0 ≤ w.heap.size) : Abd D (Coll G b0 B w) := by
  rintro pre A C ⟨v, h1, h2, h3, h4, h5⟩ hc
  exact ⟨v, hc.same _ _ h1 (.inr rfl), hc.row h2, fun x hx => hc.ownS (h3 x hx), hc.below h4 hB hw, Nat.le_trans h5 hc.size⟩
theorem keeps_grown {D base n s : Nat} {e : TypeId} {v : Value} {xs : List Value} {A C : World} (hr : A.ownsRow base e s v n xs) (hg : A.grownBy C v.ownBlock) : KeepsFrom D A C :=
  ⟨hg.size, fun k o _ hk ho => (hg.block k (Array.getElem?_eq_some_iff.1 hk).1 (fun e1 => by
    obtain ⟨cur, hc⟩ := row_heap hr e1.symm
    rw [hk] at hc
    obtain rfl := Option.some.inj hc
    cases ho)).trans hk⟩
theorem keeps_setCell {D : Nat} (A : World) (p : Addr) (v : Value) : KeepsFrom D A (A.setCell p v) := (KeepsOthers.setCell _ _ _).from _

def BoxE' (W : World) (g : Nat) (x : TEnt) : Prop := W.heap[g]? = some (.cells #[.string ⟨x.1.key.toArray⟩, .int .u64 (x.1.seq : Int), .bool x.1.gone, .slice x.2.1 x.1.val.length x.2.2] 35 (0, 0))

set_option maxRecDepth 100000 in
set_option maxHeartbeats 2000000 in
theorem l5_all (w : World) (tv : Value) (es : List Ent) (hN : es.length ≤ 1048576) (hfit : ∀ e ∈ es, FitE e) (G : Nat → Prop)
    (HAll : Calls Try.prog 35 #[tv] (w.alloc (.cells #[.slice none 0 0] 23)) fun r Y => ∃ gf lb, r = .returned (.func (.func gf) #[] lb) ∧ (∀ args W, (callFunc gf args).run Try.prog W = .ok (.enter gf args) W) ∧
      Below (w.heap.size + 1) (w.alloc (.cells #[.slice none 0 0] 23)) Y ∧ SeqE gf lb es G (fun k => k = w.heap.size) Y) :
    Calls Try.prog 28 #[tv] w fun r W => ∃ v, r = .returned v ∧ En W (fun k => G k ∨ w.heap.size < k) v es ∧ Below w.heap.size w W := by
  refine (callsIn_wide (n := 4)).1 ?_
  have HA := Lib.hid HAll
  have bO := Boxed.new w 23 (.slice none 0 0)
  have HbO := Lib.hid bO
  clear HAll bO
  refine callsIn_of_wp_marks Try.func28 rfl trivial ?_ rfl
  simp only [Try.ntmps28, List.size_toArray, List.length_cons, List.length_nil, Nat.reduceAdd, Nat.reduceSub, Array.replicate_succ, Array.replicate_zero, List.push_toArray, List.append_toArray, List.nil_append, List.cons_append]
  gi_wp2_with (refine ⟨trivial, ?_⟩; gi_at_call 35; refine (callsIn_wide.2 HA.out).mono ?_; rintro r Y ⟨gf, lb, rfl, hen, hbY, hseq⟩)
  have hYs := hbY.size
  rw [World.size_alloc] at hYs
  have hw1 : w.heap.size ≤ Y.heap.size := by omega
  have HBox : Hid (Boxed Y w.heap.size 23 (.slice none 0 0)) := Lib.hid ((hbY.block _ (by omega)).trans HbO.out)
  have HbwY : Hid (Below w.heap.size w Y) := Lib.hid (((Below.refl _ w).alloc (Nat.le_refl _) _).trans (hbY.mono (by omega)))
  refine range_q (α := TEnt) (encs := encT) (Kp := KpE (fun k => k = w.heap.size) Y.heap.size) (Qx := QT G) rfl (by omega) (gf := gf) (lb := lb) rfl trivial hen hseq (fun _ => rfl)
    (fun h k => h.trans k) (fun h => .of_calm h)
    (Coll G w.heap.size Y.heap.size w) (fun _ _ _ => False) (Coll.calm hw1 (Nat.le_refl _)) (fun _ _ _ _ h _ => h)
    ⟨_, HBox.out, World.ownsRow_nil _ _ _ _, (fun x hx => by cases hx), HbwY.out, Nat.le_refl _⟩
    (fun x a' W => ∃ Bx, Y.heap.size ≤ Bx ∧ BoxE' W Bx x ∧ QT G x W ∧ a' = { tmps := #[tv, undef, .slice none 0 0, .pointer (some ⟨w.heap.size, 0, none⟩), .pointer (some ⟨Bx, 0, none⟩), tv, .func (.func gf) #[] lb, .agg #[.string ⟨x.1.key.toArray⟩, .int .u64 (x.1.seq : Int), .bool x.1.gone, .slice x.2.1 x.1.val.length x.2.2], undef, undef, undef, undef, undef], defers := [] })
    (fun x a' _ A C h hc => by
      obtain ⟨Bx, h1, h2, h3, h4⟩ := h
      exact ⟨Bx, h1, hc.same _ _ h2 (.inr rfl), hc.ownS h3, h4⟩) ?assign ?body ?done ?stop
  case assign =>
    intro l pre x W K hi hq hK
    have HK := Lib.hid hK
    have Hi := Lib.hid hi
    have Hq := Lib.hid hq
    clear hi hq hK
    unfold encT
    gi_wp2
    have hcm : Calm Y.heap.size W (W.alloc (.cells #[.string ⟨x.1.key.toArray⟩, .int .u64 (x.1.seq : Int), .bool x.1.gone, .slice x.2.1 x.1.val.length x.2.2] 35)) := .of_below ((Below.refl _ W).alloc (Nat.le_refl _) _)
    obtain ⟨_, _, _, _, _, hsz⟩ := Hi.out
    exact HK.out _ _ ((KeepsOthers.alloc _ _).from _) (.of_below ((Below.refl _ W).alloc (Nat.le_refl _) _)) (Coll.calm hw1 (Nat.le_refl _) _ _ _ Hi.out hcm) ⟨W.heap.size, hsz, heap_alloc_new W _, hcm.ownS Hq.out, rfl⟩
  case body =>
    rintro l pre x a' W ⟨v, hbx, hrow, hq, hbw, hsz⟩ ⟨Bx, hB, hbe, hqx, rfl⟩ hlt
    obtain ⟨po, co, rfl, ho1, ho2⟩ := row_shape hrow
    have hc := hbx.cell
    have e0 := cell_of (i := 0) hbe rfl
    have e1 := cell_of (i := 1) hbe rfl
    have e2 := cell_of (i := 2) hbe rfl
    have e3 := cell_of (i := 3) hbe rfl
    obtain ⟨X, hX⟩ : ∃ X, W.alloc (.cells #[.string ⟨x.1.key.toArray⟩, .int .u64 (x.1.seq : Int), .bool x.1.gone, .slice x.2.1 x.1.val.length x.2.2] 35) = X := ⟨_, rfl⟩
    have hbX : Below W.heap.size W X := by rw [← hX]; exact (Below.refl _ W).alloc (Nat.le_refl _) _
    have HRX : Hid (X.ownsRow Y.heap.size 35 4 (.slice po pre.length co) pre.length (cellsE (pre.map Prod.fst) (pre.map TEnt.u))) := Lib.hid (row_keep hrow fun k hk => hbX.block k (row_lt hrow k hk))
    have HCX : Hid (Cl X (fun k => k = W.heap.size) (.slice (some ⟨W.heap.size, 0, none⟩) 1 1) 1 (cellsE [x.1] [x.u])) := Lib.hid (by
      rw [← hX]
      exact Cl.new W (fun k => k = W.heap.size) 1 _ #[.string ⟨x.1.key.toArray⟩, .int .u64 (x.1.seq : Int), .bool x.1.gone, .slice x.2.1 x.1.val.length x.2.2] 35 rfl (by omega) rfl)
    have oneu : Hid (∀ v ∈ cellsE [x.1] [x.u], v.oneCell' = true) := Lib.hid (cellsE_one _ _ (by simp [TEnt.u, Value.oneCell']))
    have HszX : Hid (Y.heap.size ≤ X.heap.size) := Lib.hid (Nat.le_trans hsz hbX.size)
    have HbxX : Hid (Boxed X w.heap.size 23 (.slice po pre.length co)) := Lib.hid ((hbX.block _ hbx.lt).trans hbx)
    have HbX := Lib.hid hbX
    have Hq := Lib.hid hq
    have Hqx := Lib.hid hqx
    have Hbw := Lib.hid hbw
    have Hrow := Lib.hid hrow
    have hlt2 : pre.length + 1 ≤ 68719476736 := by omega
    clear hbx hrow hq hbw hbe hqx hbX
    gi_wp2_with (gi_at_builtin
                 refine slEnt.wpListIn_append rfl (.tmp 8) (.tmp 10) rfl Y.heap.size (v := .slice po pre.length co) (u := .slice (some ⟨W.heap.size, 0, none⟩) 1 1) rfl rfl HRX.out HCX.out rfl oneu.out hlt2 HszX.out ?_
                 intro v' w1 ho hg ha
                 have hb1 : Below Y.heap.size X w1 := (Below.refl _ X).grown hg HszX.out (row_low HRX.out)
                 have hbx1 := (hb1.block w.heap.size (by omega)).trans HbxX.out
                 have hc1 := cell_of (i := 0) hbx1 rfl
                 have hf1 := frozen_of (i := 0) hbx1
                 obtain ⟨p9, c9, rfl, _, _⟩ := row_shape ho
                 have HO := Lib.hid ho
                 have HG := Lib.hid hg
                 have HB1 := Lib.hid hb1
                 have HBx1 := Lib.hid hbx1
                 clear ho hg ha hb1 hbx1)
    have hkeep : ∀ {u : Value} {l : List UInt8}, OwnS G W u l → OwnS G (w1.setCell ⟨w.heap.size, 0, none⟩ (.slice p9 (pre.length + 1) c9)) u l := fun hu => hu.keep (fun j hj => by
      obtain ⟨cur, hcu⟩ := hu.1.heap hj
      have h1 := (HbX.out.block j (block_lt hcu)).trans hcu
      have h2 : w1.heap[j]? = X.heap[j]? := HG.out.block j (block_lt h1) (fun e => by
        obtain ⟨cur2, hc2⟩ := row_heap HRX.out e.symm
        exact kind_ne h1 hc2 (by decide) rfl)
      have h3 : j ≠ w.heap.size := kind_ne h1 HbxX.out (by decide)
      exact ((setCell_other h3 _).trans h2).trans (h1.trans hcu.symm)) (fun _ _ hs => hs)
    refine ⟨?_, ?_, .slice p9 (pre.length + 1) c9, ?_, ?_, fun y hy => ?_, ?_, ?_⟩
    · have k1 : KeepsFrom Y.heap.size W X := by rw [← hX]; exact (KeepsOthers.alloc _ _).from _
      exact (k1.trans (keeps_grown HRX.out HG.out)).trans (keeps_setCell _ _ _)
    · exact ((KpE.of_below HbX.out).trans (KpE.grown HRX.out HG.out (Nat.le_refl _))).trans (KpE.setCell w1 (B0 := fun k => k = w.heap.size) rfl _)
    · have := setCell_same (off := 0) HBx1.out (.slice p9 (pre.length + 1) c9)
      unfold Boxed
      simpa using this
    · have h1 := row_keep (w' := w1.setCell ⟨w.heap.size, 0, none⟩ (.slice p9 (pre.length + 1) c9)) HO.out fun k hk => setCell_other (fun e => by have := row_low HO.out k hk; omega) _
      rw [← cellsE_append _ _ _ _ (by simp)] at h1
      simpa using h1
    · rcases List.mem_append.1 hy with hy | hy
      · exact hkeep (Hq.out y hy)
      · obtain rfl : y = x := by simpa using hy
        exact hkeep Hqx.out
    · have b1 : Below w.heap.size w X := Hbw.out.trans (HbX.out.mono Hbw.out.size)
      exact (b1.trans (HB1.out.mono hw1)).setCell (p := ⟨w.heap.size, 0, none⟩) (Nat.le_refl _) _
    · have := HB1.out.size
      have := HszX.out
      simp [World.setCell]
      omega
  case done =>
    rintro D ys W hD hS ⟨v, hbx, hrow, hq, hbw, hsz⟩ hK
    have hc := hbx.cell
    have hcm : Calm Y.heap.size W (W.putObj D (.deferred none)) := Calm.put _ hD hK rfl
    have HEn : Hid (En (W.putObj D (.deferred none)) (fun k => G k ∨ w.heap.size < k) v es ∧ Below w.heap.size w (W.putObj D (.deferred none))) := Lib.hid (by
      have hlen : es.length = ys.length := by rw [← hS, List.length_map]
      refine ⟨⟨ys.map TEnt.u, by simp [hlen], ?_, fun k e u h1 h2 => ?_⟩, hcm.below hbw hw1 (Nat.le_refl _)⟩
      · rw [← hS, List.length_map]
        exact Cl.of_own (hcm.row hrow) (by omega) (fun k hk => .inr (by have := row_low hrow k hk; omega)) (by rw [cellsE_length _ _ (by simp), List.length_map])
      · rw [← hS] at h1
        have hkl : k < ys.length := by
          have := (List.getElem?_eq_some_iff.1 h1).1
          rwa [List.length_map] at this
        have e1 : ys[k].1 = e := by simpa [hkl] using h1
        have e2 : ys[k].u = u := by simpa [hkl] using h2
        subst e1 e2
        have hf := hfit ys[k].1 (by rw [← hS]; exact List.mem_map_of_mem (List.getElem_mem hkl))
        exact ((hcm.ownS (hq ys[k] (List.getElem_mem hkl))).by_ (by have := hf.val; omega)).mono fun _ _ hG => .inl hG)
    have HK := Lib.hid hK
    clear hbx hrow hq hbw hK hcm hS
    gi_wp2
    refine ⟨by simp, .inl ⟨_, _, rfl, run_takeDeferred HK.out, ?_⟩⟩
    exact ⟨_, results_tmp rfl _ _ _, v, rfl, HEn.out⟩
  case stop =>
    rintro D c pre W _ _ h _
    exact h.elim
end Go.Proofs.Ytdmjkejadaienaa
