/-
  Slices of files: read, cut, appended.
-/
import Derived.Test.YtlekffhacmdnnaaRfB
import Derived.Deep.RegionLaw
import Derived.Deep.DeepCutAuto
namespace Go.Proofs.Ytlekffhacmdnnaa
open Go.RowKit

theorem infoFile : (Try.prog.info? 73).map (fun i => (i.zero, i.size, i.bytes)) = some (some (.agg #[.string ⟨#[]⟩, .slice none 0 0, .int .i64 0]), 3, 48) := by kernel_rfl
theorem sizeFile (w : World) : (Go.sizeOf 73).run Try.prog w = .ok 3 w := by kernel_rfl
theorem elemFile : Try.prog.elem 55 = 73 := by simp [Program.elem, Try.underlying55]
theorem underFile : Try.prog.underlying 55 = some (.slice (Try.prog.elem 55)) := by rw [elemFile]; exact Try.underlying55

/-- A slice of files that is read. -/
def Sf (w : World) (v : Value) (fs : List Fl) (us : List Value) : Prop :=
  ∃ p cap, v = .slice p fs.length cap ∧ us.length = fs.length ∧ fs.length ≤ cap ∧ cap ≤ 9223372036854775807 ∧ (p = none → cap = 0) ∧
    ∀ j x, (cellsF fs us)[j]? = some x → ∃ b off, p = some ⟨b, off, none⟩ ∧ b < w.heap.size ∧ w.cell? ⟨b, off + j, none⟩ = some x
theorem Sf.keep {w w' : World} {v : Value} {fs : List Fl} {us : List Value} (h : Sf w v fs us) (hb : Below w.heap.size w w') : Sf w' v fs us := by
  obtain ⟨p, cap, e, h1, h2, h3, h4, h5⟩ := h
  refine ⟨p, cap, e, h1, h2, h3, h4, fun j x hx => ?_⟩
  obtain ⟨b, off, e2, hlt, hc⟩ := h5 j x hx
  exact ⟨b, off, e2, Nat.lt_of_lt_of_le hlt hb.size, (below_cells hb b _ hlt).trans hc⟩
theorem RfAt.sf {w : World} {S : Nat → Prop} {rb : Nat} {D : Dsk} {fv : Value} {us : List Value} (h : RfAt w S rb D fv us) : Sf w fv D.files us := by
  have hrow := h.row
  rcases h.row.2 with ⟨rfl, h0⟩ | ⟨g, cap, cur, rfl, _, hg, h1, h2, _⟩
  · refine ⟨none, 0, by rw [h0], h.len, by omega, by omega, fun _ => rfl, fun j x hx => ?_⟩
    have := (List.getElem?_eq_some_iff.1 hx).1
    rw [cellsF_length _ _ h.len] at this
    omega
  · refine ⟨_, cap, rfl, h.len, h1, by unfold maxLen at h2; exact h2, (fun e => by cases e), fun j x hx => ⟨g, 0, rfl, block_lt hg, ?_⟩⟩
    have hj := (List.getElem?_eq_some_iff.1 hx).1
    rw [cellsF_length _ _ h.len] at hj
    rw [Nat.zero_add, hrow.cellAt j hj, hx]
theorem Sf.take {w : World} {v : Value} {fs : List Fl} {us : List Value} (h : Sf w v fs us) {k : Nat} (hk : k ≤ fs.length) :
    ∃ v', Sf w v' (fs.take k) (us.take k) ∧ ∀ W, (Instr.slice 55 v none (some (.int .i64 (k : Int))) none).run Try.prog W = .ok v' W := by
  obtain ⟨p, cap, rfl, h1, h2, h3, h4, h5⟩ := h
  refine ⟨.slice p k cap, ⟨p, cap, by rw [List.length_take, Nat.min_eq_left hk], by simp [h1], by rw [List.length_take]; omega, h3, h4, fun j x hx => h5 j x ?_⟩, fun W => ?_⟩
  · rw [← cellsF_take fs us h1 k hk] at hx
    have hj := (List.getElem?_eq_some_iff.1 hx).1
    rw [List.length_take] at hj
    rw [List.getElem?_take_of_lt (by omega)] at hx
    exact hx
  · rw [run_slice_h W 55 _ _ _ underFile .i64 _ (by omega) (by omega), elemFile, sizeFile]
    simp only [Result.andThen, sliced]
    rw [show ((k : Int)).toNat = k from by omega]
    by_cases hc : cap = 0
    · rw [if_pos hc]; simp
    · rw [if_neg hc]
      cases p with
      | none => simp
      | some a => cases a; simp [Addr.add]
theorem Sf.drop {w : World} {v : Value} {fs : List Fl} {us : List Value} (h : Sf w v fs us) {k : Nat} (hk : k ≤ fs.length) :
    ∃ v', Sf w v' (fs.drop k) (us.drop k) ∧ ∀ W, (Instr.slice 55 v (some (.int .i64 (k : Int))) none none).run Try.prog W = .ok v' W := by
  obtain ⟨p, cap, rfl, h1, h2, h3, h4, h5⟩ := h
  have hcl := cellsF_length fs us h1
  refine ⟨.slice (if cap = k then p else p.map (·.add (k * 3))) (fs.length - k) (cap - k), ⟨_, _, by rw [List.length_drop], by simp [h1], by rw [List.length_drop]; omega, by omega, fun hp => ?_, fun j x hx => ?_⟩, fun W => ?_⟩
  · split at hp
    · omega
    · have : p = none := by
        cases p with
        | none => rfl
        | some a => cases hp
      have := h4 this
      omega
  · rw [← cellsF_drop fs us h1 k hk] at hx
    have hj := (List.getElem?_eq_some_iff.1 hx).1
    rw [List.length_drop, hcl] at hj
    rw [List.getElem?_drop] at hx
    obtain ⟨b, off, rfl, hlt, hc⟩ := h5 _ x hx
    refine ⟨b, off + k * 3, ?_, hlt, by rw [Nat.add_assoc]; exact hc⟩
    rw [if_neg (by omega)]
    simp [Addr.add_mid]
  · rw [run_slice_l W 55 _ _ _ underFile .i64 _ (by omega) (by omega), elemFile, sizeFile]
    simp only [Result.andThen, sliced]
    rw [show ((k : Int)).toNat = k from by omega]

theorem cellsF_one : ∀ (l : List Fl) (us : List Value), (∀ u ∈ us, u.oneCell' = true) → ∀ x ∈ cellsF l us, x.oneCell' = true
  | [], _, _, _, h => by simp [cellsF] at h
  | _ :: _, [], _, _, h => by simp [cellsF] at h
  | f :: r, u :: us, hu, x, h => by
    simp only [cellsF, List.mem_cons] at h
    rcases h with rfl | rfl | rfl | h
    · rfl
    · exact hu _ (by simp)
    · rfl
    · exact cellsF_one r us (fun v hv => hu v (by simp [hv])) x h

/-- A row of files of the call's own. -/
def OwnF (w : World) (base : Nat) (v : Value) (fs : List Fl) (us : List Value) : Prop := us.length = fs.length ∧ w.ownsRow base 73 3 v fs.length (cellsF fs us)
theorem OwnF.lit (w : World) (base : Nat) (hb : base ≤ w.heap.size) : OwnF (w.alloc (.cells #[] 73)) base (.slice (some ⟨w.heap.size, 0, none⟩) 0 0) [] [] :=
  ⟨rfl, by simpa [cellsF] using World.ownsRow_lit (e := 73) (size := 3) w #[] 0 hb (Nat.zero_le _) rfl⟩

theorem OwnF.shape {w : World} {base : Nat} {v : Value} {fs : List Fl} {us : List Value} (h : OwnF w base v fs us) : ∃ n p cap, v = .slice p n cap := by
  rcases h.2.2 with ⟨rfl, _⟩ | ⟨g, cap, cur, rfl, _⟩
  · exact ⟨_, _, _, rfl⟩
  · exact ⟨_, _, _, rfl⟩
theorem OwnF.keep {w w' : World} {base : Nat} {v : Value} {fs : List Fl} {us : List Value} (h : OwnF w base v fs us) (hk : ∀ k, v.ownBlock = some k → w'.heap[k]? = w.heap[k]?) : OwnF w' base v fs us := by
  refine ⟨h.1, h.2.1, ?_⟩
  rcases h.2.2 with hn | ⟨g, cap, cur, rfl, h1, h2, h3⟩
  · exact .inl hn
  · exact .inr ⟨g, cap, cur, rfl, h1, (hk g (by simp [Value.ownBlock])).trans h2, h3⟩
theorem OwnF.low {w : World} {base : Nat} {v : Value} {fs : List Fl} {us : List Value} (h : OwnF w base v fs us) : ∀ k, v.ownBlock = some k → base ≤ k := fun k hk => (World.ownsRow.lt h.2 k hk).1
/-- append onto a row of files: the run, from whatever slice of files. -/
theorem run_append_F (w : World) (base : Nat) (ty : TypeId) {v u : Value} {fs gs : List Fl} {us ws : List Value} (hown : OwnF w base v fs us) (hsf : Sf w u gs ws) (hws : ∀ x ∈ ws, x.oneCell' = true)
    (hlen : fs.length + gs.length ≤ 1099511627776) (hbase : base ≤ w.heap.size) :
    ∃ v' w', (Builtin.append_ #[55, 55] ty #[v, u]).run Try.prog w = .ok v' w' ∧ OwnF w' base v' (fs ++ gs) (us ++ ws) ∧ w.grownBy w' v.ownBlock ∧ (v'.ownBlock = v.ownBlock ∨ v'.ownBlock = some w.heap.size) := by
  obtain ⟨i0, hi, hz0, hz1, hz2⟩ := info_parts infoFile
  obtain ⟨p, cap, rfl, h1, h2, h3, h4, h5⟩ := hsf
  cases p with
  | none =>
    have hc := h4 rfl
    subst hc
    have hg : gs = [] := List.eq_nil_of_length_eq_zero (by omega)
    subst hg
    have hw : ws = [] := List.eq_nil_of_length_eq_zero (by simpa using h1)
    subst hw
    have hrun := run_append_owned_none (P := Try.prog) (w := w) base 55 ty 73 i0 3 Try.underlying55 hi v _ _ hown.2
    exact ⟨v, w, hrun, by simpa using hown, ⟨rfl, rfl, rfl, Nat.le_refl _, fun _ _ _ => rfl⟩, .inl rfl⟩
  | some ad =>
    obtain ⟨v', w', hr, ho, hg, _, ha⟩ := run_append_own_at (P := Try.prog) w base 55 ty 73 i0 _ 3 48 Try.underlying55 hi hz0 hz1 hz2 rfl (by decide) v _ _ hown.2 ad gs.length cap (cellsF gs ws) (cellsF_length gs ws h1)
      (fun j x hx => by
        obtain ⟨b, off, e, _, hc⟩ := h5 j x hx
        obtain rfl := Option.some.inj e
        rw [Addr.add_mid]
        exact hc) (cellsF_one gs ws hws) (by unfold maxLen; omega) (by omega) hbase
    refine ⟨v', w', hr, ⟨by simp [hown.1, h1], ?_⟩, hg, ha⟩
    rw [List.length_append, cellsF_append fs gs us ws hown.1]
    exact ho
theorem step_append_F {ops : Array Oper} {o : Oper} {a : Act} {w : World} {K : Act → World → Prop} {Q : Exit → Act → World → Prop} {E : Prop} (hg : o.guard = none) (s x : Operand)
    (hop : o.op = Op.call { callee := Callee.builtin Builtin.append, args := #[s, x], argTypes := #[55, 55] })
    (base : Nat) {v u : Value} {fs gs : List Fl} {us ws : List Value} (hs : a.eval s = v) (hx : a.eval x = u) (hown : OwnF w base v fs us) (hsf : Sf w u gs ws) (hws : ∀ x ∈ ws, x.oneCell' = true)
    (hlen : fs.length + gs.length ≤ 1099511627776) (hbase : base ≤ w.heap.size)
    (hK : ∀ v' w', OwnF w' base v' (fs ++ gs) (us ++ ws) → w.grownBy w' v.ownBlock → (v'.ownBlock = v.ownBlock ∨ v'.ownBlock = some w.heap.size) → K (a.put o.dst v') w') :
    if Region.wanted o (yielded ops a.tmps) = true then Oper.wp Try.prog o a w K Q else E := by
  have hw : Region.wanted o (yielded ops a.tmps) = true := by simp [Region.wanted, hg]
  rw [if_pos hw]
  obtain ⟨v', w', hrun, h1, h2, h3⟩ := run_append_F w base o.type hown hsf hws hlen hbase
  unfold Oper.wp
  simp [execOp, hop, resolve, invoke, builtin, hs, hx, hrun, Result.andThen]
  exact hK v' w' h1 h2 h3
theorem wpList_append_F {w : World} {ops : Array Oper} {rest : List Oper} {o : Oper} {a : Act} {Q : Exit → Act → World → Prop} (hg : o.guard = none) (s x : Operand)
    (hop : o.op = Op.call { callee := Callee.builtin Builtin.append, args := #[s, x], argTypes := #[55, 55] })
    (base : Nat) {v u : Value} {fs gs : List Fl} {us ws : List Value} (hs : a.eval s = v) (hx : a.eval x = u) (hown : OwnF w base v fs us) (hsf : Sf w u gs ws) (hws : ∀ x ∈ ws, x.oneCell' = true)
    (hlen : fs.length + gs.length ≤ 1099511627776) (hbase : base ≤ w.heap.size)
    (hK : ∀ v' w', OwnF w' base v' (fs ++ gs) (us ++ ws) → w.grownBy w' v.ownBlock → (v'.ownBlock = v.ownBlock ∨ v'.ownBlock = some w.heap.size) → wpList Try.prog ops Q rest (a.put o.dst v') w') : wpList Try.prog ops Q (o :: rest) a w := by
  refine wpList_plain hg fun K hKK => ?_
  obtain ⟨v', w', hrun, h1, h2, h3⟩ := run_append_F w base o.type hown hsf hws hlen hbase
  unfold Oper.wp
  simp [execOp, hop, resolve, invoke, builtin, hs, hx, hrun, Result.andThen]
  exact hKK _ _ (hK v' w' h1 h2 h3)

section
variable {w w' : World} {S : Nat → Prop} {rb : Nat} {D : Dsk} {fv : Value} {us : List Value}
theorem RfAt.ones (h : RfAt w S rb D fv us) : ∀ u ∈ us, u.oneCell' = true := fun u hu => by
  obtain ⟨k, hk, rfl⟩ := List.getElem_of_mem hu
  have hk2 : k < D.files.length := by rw [← h.len]; exact hk
  exact (h.bytes k _ _ (List.getElem?_eq_getElem hk2) (List.getElem?_eq_getElem hk)).one
/-- A file's bytes lie neither in the disk's own block nor in the row of files. -/
theorem RfAt.free (h : RfAt w S rb D fv us) {u : Value} {l : List UInt8} (hu : InS S w u l) : ∀ j, u.ownBlock = some j → j ≠ rb ∧ fv.ownBlock ≠ some j := fun j hj => by
  obtain ⟨cur, hc⟩ := hu.1.heap hj
  refine ⟨kind_ne hc h.blk (by decide), fun e => ?_⟩
  obtain ⟨cur2, hc2⟩ := h.heap e
  exact kind_ne hc hc2 (by decide) rfl
/-- Other files, in a new row. -/
theorem RfAt.refile (h : RfAt w S rb D fv us) {fs' : List Fl} {us' : List Value} {fv' : Value}
    (hblk : w'.heap[rb]? = some (.cells #[.int .i64 (D.size : Int), fv', .int .i64 (D.born : Int)] 57 (0, 0))) (hown : OwnF w' w.heap.size fv' fs' us')
    (hby : ∀ (k : Nat) (f : Fl) (u : Value), fs'[k]? = some f → us'[k]? = some u → InS (More S w.heap.size) w' u f.data) (hle : ∀ f ∈ fs', f.synced ≤ f.data.length) (hsrt : Srt fs') (hnames : ∀ f ∈ fs', f.name.length ≤ 64) (hroom : used fs' ≤ D.size) :
    RfAt w' (More S w.heap.size) rb { D with files := fs' } fv' us' := by
  refine ⟨hblk, ⟨hown.2.1, ?_⟩, hown.1, hby, hle, hsrt, hnames, hroom, h.size, .inl h.inS, fun k hk => .inr (World.ownsRow.lt hown.2 k hk).1⟩
  rcases hown.2.2 with hn | ⟨g, cap, cur, e, _, hg⟩
  · exact .inl hn
  · exact .inr ⟨g, cap, cur, e, Nat.zero_le _, hg⟩
theorem RfAt.old (h : RfAt w S rb D fv us) (hfr : Fr (fun k => k = rb) w w') {k : Nat} {f : Fl} {u : Value} (hf : D.files[k]? = some f) (hu : us[k]? = some u) : InS (More S w.heap.size) w' u f.data := by
  have hin := h.bytes k f u hf hu
  refine hin.keep (fun j hj => ?_) (fun _ _ hs => .inl hs)
  obtain ⟨cur, hc⟩ := hin.1.heap hj
  exact hfr.block j (block_lt hc) (h.free hin j hj).1
/-- A new row of files, laid into the disk. -/
theorem RfAt.lay {w w2 : World} {S : Nat → Prop} {rb : Nat} {D : Dsk} {fv : Value} {us : List Value} (h : RfAt w S rb D fv us) (hb : Below w.heap.size w w2) {fs' : List Fl} {us' : List Value} {fv' : Value} (hown : OwnF w2 w.heap.size fv' fs' us')
    (hby : ∀ (k : Nat) (f : Fl) (u : Value), fs'[k]? = some f → us'[k]? = some u → InS (More S w.heap.size) w2 u f.data) (hle : ∀ f ∈ fs', f.synced ≤ f.data.length) (hsrt : Srt fs') (hnames : ∀ f ∈ fs', f.name.length ≤ 64) (hroom : used fs' ≤ D.size) :
    Rf (w2.setCell ⟨rb, 1, none⟩ fv') (More S w.heap.size) rb { D with files := fs' } ∧ Fr (fun k => k = rb) w (w2.setCell ⟨rb, 1, none⟩ fv') := by
  have hblk := (hb.block rb h.lt).trans h.blk
  refine ⟨⟨fv', us', h.refile (setCell_same hblk fv') (hown.keep fun k hk => setCell_other (by have := (World.ownsRow.lt hown.2 k hk).1; have := h.lt; omega) _) (fun k f u h1 h2 => ?_) hle hsrt hnames hroom⟩, (Fr.of_new hb _).then (Fr.setCell (fun k => k = rb) w2 (p := ⟨rb, 1, none⟩) rfl fv')⟩
  have hin := hby k f u h1 h2
  refine hin.keep (fun j hj => ?_) (fun _ _ hs => hs)
  obtain ⟨cur, hc⟩ := hin.1.heap hj
  exact setCell_other (kind_ne hc hblk (by decide)) _
theorem RfAt.old_new (h : RfAt w S rb D fv us) (hb : Below w.heap.size w w') {k : Nat} {f : Fl} {u : Value} (hf : D.files[k]? = some f) (hu : us[k]? = some u) : InS (More S w.heap.size) w' u f.data := h.old (Fr.of_new hb _) hf hu
end
/-- Two lists of one length, cut alike. -/
theorem pair_cut {α β : Type} {a : List α} {b : List β} (h : b.length = a.length) {i j : Nat} (hij : i ≤ j) (hj : j ≤ a.length) {k : Nat} {x : α} {y : β} (hx : (a.take i ++ a.drop j)[k]? = some x) (hy : (b.take i ++ b.drop j)[k]? = some y) : ∃ m : Nat, a[m]? = some x ∧ b[m]? = some y := by
  by_cases hk : k < i
  · rw [List.getElem?_append_left (by rw [List.length_take]; omega), List.getElem?_take_of_lt hk] at hx hy
    exact ⟨k, hx, hy⟩
  · rw [List.getElem?_append_right (by rw [List.length_take]; omega), List.length_take, List.getElem?_drop] at hx hy
    refine ⟨j + (k - min i a.length), hx, ?_⟩
    rw [← hy, h]
end Go.Proofs.Ytlekffhacmdnnaa
