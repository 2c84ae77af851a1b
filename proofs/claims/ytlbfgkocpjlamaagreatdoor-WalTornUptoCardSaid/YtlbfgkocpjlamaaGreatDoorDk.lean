/-
  A disk in memory: 'DkAt w S db D mv loc dat': block db of w is a disk that is told by D; its map is mv, the file called s lies in block loc s and holds the slice dat s; all its blocks are in the set S. What changes it, block by block.
-/
import Derived.Test.YtlbfgkocpjlamaaGreatDoorBlk
import Derived.Test.YtlbfgkocpjlamaaGreatDoorDsk
import Derived.StringKeys
namespace Go.Proofs.YtlbfgkocpjlamaaGreatDoor
open Go.RowKit Go.Maps

/-! ### the map -/
def ptrElem : Value → Option (DataW Nat × List MemPlace)
  | .pointer none => some (.nil, [])
  | .pointer (some ⟨b, 0, none⟩) => some (.held b, [])
  | _ => none
def ptrTo (o : Option Nat) : Value := .pointer (o.map fun b => ⟨b, 0, none⟩)
theorem ptrElem_some (b : Nat) : ptrElem (.pointer (some ⟨b, 0, none⟩)) = some (.held b, []) := rfl
theorem ptrElem_none : ptrElem (.pointer none) = some (.nil, []) := rfl
theorem ptrElem_inv {v : Value} {y : DataW Nat × List MemPlace} (h : ptrElem v = some y) : (v = .pointer none ∧ y = (.nil, [])) ∨ ∃ b, v = .pointer (some ⟨b, 0, none⟩) ∧ y = (.held b, []) := by
  unfold ptrElem at h
  split at h
  · cases h; exact .inl ⟨rfl, rfl⟩
  · cases h; exact .inr ⟨_, rfl, rfl⟩
  · cases h
theorem ptrElem_shape {v : Value} {y : DataW Nat × List MemPlace} (h : ptrElem v = some y) : ∃ o, v = ptrTo o := by
  rcases ptrElem_inv h with ⟨rfl, _⟩ | ⟨b, rfl, _⟩
  · exact ⟨none, rfl⟩
  · exact ⟨some b, rfl⟩
theorem law : Keyed Tryz.prog 9 := string_keyed Tryz.underlying9
theorem zeroPtr (w : World) : (zeroValue 66).run Tryz.prog w = .ok (.pointer none) w := by kernel_rfl
theorem key_of (s : List UInt8) (h : s.length ≤ maxLen) : keyOf Tryz.prog 9 (encStr s) = some (.string s) := by
  have := Go.WideMaps.keyOf_string_mk Tryz.underlying9 (s := ⟨s.toArray⟩) (by simpa [ByteArray.size] using h)
  simpa using this

theorem own_exact {w : World} {mb n : Nat} {loc : List UInt8 → Nat} {l : List Fl} (h : w.ownsMap Tryz.prog 9 ptrElem mb n (dm loc l)) : w.ownsMap Tryz.prog 9 ptrElem mb l.length (dm loc l) := by
  obtain ⟨es, clock, hb, F, _, hD⟩ := h
  refine ⟨es, clock, hb, F, ?_, hD⟩
  have := congrArg Go.Maps.size hD
  rw [dm_size] at this
  simp only [Go.Maps.size, length_sorted, List.length_map, Array.length_toList] at this
  omega

def MapIs (w : World) (S : Nat → Prop) (mv : Value) (loc : List UInt8 → Nat) (l : List Fl) : Prop :=
  (mv = .map none ∧ l = []) ∨ ∃ mb, mv = .map (some mb) ∧ S mb ∧ w.ownsMap Tryz.prog 9 ptrElem mb l.length (dm loc l)

theorem own_block {w w' : World} {k : TypeId} {R : Value → Option (DataW Nat × List MemPlace)} {b n : Nat} {D : DataW Nat} (h : w.ownsMap Tryz.prog k R b n D) (e : w'.heap[b]? = w.heap[b]?) : w'.ownsMap Tryz.prog k R b n D := by
  obtain ⟨es, clock, hb, r⟩ := h
  exact ⟨es, clock, e.trans hb, r⟩
theorem own_kind {w : World} {k : TypeId} {R : Value → Option (DataW Nat × List MemPlace)} {b n a : Nat} {D : DataW Nat} (h : w.ownsMap Tryz.prog k R b n D) {c : Array Value} {t : TypeId} {z : Nat × Nat} (ha : w.heap[a]? = some (.cells c t z)) : b ≠ a := by
  rintro rfl
  obtain ⟨es, clock, hb, _⟩ := h
  rw [ha] at hb
  cases hb
theorem MapIs.keep {w w' : World} {S T : Nat → Prop} {mv : Value} {loc : List UInt8 → Nat} {l : List Fl} (h : MapIs w S mv loc l) (hk : ∀ b, mv = .map (some b) → w'.heap[b]? = w.heap[b]?) (hT : ∀ k, k < w.heap.size → S k → T k) : MapIs w' T mv loc l := by
  rcases h with h | ⟨mb, e, hs, ho⟩
  · exact .inl h
  · exact .inr ⟨mb, e, hT mb ho.lt hs, own_block ho (hk mb e)⟩

/-- What is told of a name: the pointer to its file, or none. -/
def at_ (loc : List UInt8 → Nat) (l : List Fl) (s : List UInt8) : Value := ptrTo (match look s l with | some _ => some (loc s) | none => none)
theorem MapIs.run {w : World} {S : Nat → Prop} {mv : Value} {loc : List UInt8 → Nat} {l : List Fl} (h : MapIs w S mv loc l) (s : List UInt8) (hs : s.length ≤ maxLen) :
    (Instr.lookup 50 mv (encStr s) false).run Tryz.prog w = .ok (at_ loc l s) w := by
  rcases h with ⟨rfl, rfl⟩ | ⟨mb, rfl, _, ho⟩
  · have := Maps.look_nil (P := Tryz.prog) (w := w) false law Tryz.underlying50 (zeroPtr w) (key_of s hs)
    simpa [at_, Go.Proofs.YtlbfgkocpjlamaaGreatDoor.look, ptrTo] using this
  · obtain ⟨v, ps, hrun, hv⟩ := ho.lookup law Tryz.underlying50 (zeroPtr w) (zd := .nil) (zp := []) ptrElem_none (key_of s hs)
    rw [hrun, dm_at] at *
    congr 1
    unfold at_
    rcases e : look s l with _ | f
    · rw [e] at hv
      rcases ptrElem_inv hv with ⟨rfl, _⟩ | ⟨b, rfl, hy⟩
      · rfl
      · simp at hy
    · rw [e] at hv
      rcases ptrElem_inv hv with ⟨rfl, hy⟩ | ⟨b, rfl, hy⟩
      · simp at hy
      · have : b = loc s := by
          have := hy.symm
          simp at this
          exact this.1
        rw [this]
        rfl

theorem wpList_look {w : World} {ops : Array Oper} {rest : List Oper} {o : Oper} {a : Act} {Q : Exit → Act → World → Prop} (hg : o.guard = none) (m x : Operand)
    (hop : o.op = Op.lookup 50 m x false) {S : Nat → Prop} {mv : Value} {loc : List UInt8 → Nat} {l : List Fl} (h : MapIs w S mv loc l) (s : List UInt8) (hs : s.length ≤ maxLen) (hm : a.eval m = mv) (hx : a.eval x = encStr s)
    (hK : wpList Tryz.prog ops Q rest (a.put o.dst (at_ loc l s)) w) : wpList Tryz.prog ops Q (o :: rest) a w := by
  refine wpList_plain hg fun K' hK' => ?_
  have hrun := h.run s hs
  unfold Oper.wp
  simp [execOp, hop, hm, hx, hrun, Result.andThen]
  exact hK' _ _ hK

theorem wpList_look_some {w : World} {ops : Array Oper} {rest : List Oper} {o : Oper} {a : Act} {Q : Exit → Act → World → Prop} (hg : o.guard = none) (m x : Operand)
    (hop : o.op = Op.lookup 50 m x false) {S : Nat → Prop} {mv : Value} {loc : List UInt8 → Nat} {l : List Fl} (h : MapIs w S mv loc l) (s : List UInt8) (hs : s.length ≤ maxLen) {f : Fl} (hl : look s l = some f) (hm : a.eval m = mv) (hx : a.eval x = encStr s)
    (hK : wpList Tryz.prog ops Q rest (a.put o.dst (.pointer (some ⟨loc s, 0, none⟩))) w) : wpList Tryz.prog ops Q (o :: rest) a w :=
  wpList_look hg m x hop h s hs hm hx (by
    have e : at_ loc l s = .pointer (some ⟨loc s, 0, none⟩) := by unfold at_; rw [hl]; rfl
    rw [e]; exact hK)
theorem wpList_look_none {w : World} {ops : Array Oper} {rest : List Oper} {o : Oper} {a : Act} {Q : Exit → Act → World → Prop} (hg : o.guard = none) (m x : Operand)
    (hop : o.op = Op.lookup 50 m x false) {S : Nat → Prop} {mv : Value} {loc : List UInt8 → Nat} {l : List Fl} (h : MapIs w S mv loc l) (s : List UInt8) (hs : s.length ≤ maxLen) (hl : look s l = none) (hm : a.eval m = mv) (hx : a.eval x = encStr s)
    (hK : wpList Tryz.prog ops Q rest (a.put o.dst (.pointer none)) w) : wpList Tryz.prog ops Q (o :: rest) a w :=
  wpList_look hg m x hop h s hs hm hx (by
    have e : at_ loc l s = .pointer none := by unfold at_; rw [hl]; rfl
    rw [e]; exact hK)

/-! ### the files -/
structure FileAt (w : World) (S : Nat → Prop) (b : Nat) (v : Value) (f : Fl) : Prop where
  blk : w.heap[b]? = some (.cells #[v, .int .i64 (f.synced : Int)] 70 (0, 0))
  own : Own w 0 v f.data
  le : f.synced ≤ f.data.length
  inS : S b
  row : ∀ k, v.ownBlock = some k → S k
theorem FileAt.keep {w w' : World} {S T : Nat → Prop} {b : Nat} {v : Value} {f : Fl} (h : FileAt w S b v f) (hb : w'.heap[b]? = w.heap[b]?) (hk : ∀ k, v.ownBlock = some k → w'.heap[k]? = w.heap[k]?) (hT : ∀ k, k < w.heap.size → S k → T k) : FileAt w' T b v f :=
  ⟨hb.trans h.blk, h.own.keep hk, h.le, hT b (block_lt h.blk) h.inS, fun k e => by
    obtain ⟨cur, hc⟩ := h.own.heap e
    exact hT k (block_lt hc) (h.row k e)⟩

theorem FileAt.c0 {w : World} {S : Nat → Prop} {b : Nat} {v : Value} {f : Fl} (h : FileAt w S b v f) : w.cell? ⟨b, 0, none⟩ = some v := cell_of h.blk rfl
theorem FileAt.c1 {w : World} {S : Nat → Prop} {b : Nat} {v : Value} {f : Fl} (h : FileAt w S b v f) : w.cell? ⟨b, 1, none⟩ = some (.int .i64 (f.synced : Int)) := cell_of h.blk rfl
theorem FileAt.fz {w : World} {S : Nat → Prop} {b : Nat} {v : Value} {f : Fl} (h : FileAt w S b v f) (i : Nat) : w.frozen? ⟨b, i, none⟩ = false := frozen_of h.blk
theorem FileAt.lt {w : World} {S : Nat → Prop} {b : Nat} {v : Value} {f : Fl} (h : FileAt w S b v f) : b < w.heap.size := block_lt h.blk
theorem Own.form {w : World} {base : Nat} {v : Value} {l : List UInt8} (h : Own w base v l) : ∃ p cap, v = .slice p l.length cap ∧ l.length ≤ cap ∧ cap ≤ 9223372036854775807 := by
  rcases h.2 with ⟨rfl, h0⟩ | ⟨g, cap, cur, rfl, _, _, h1, h2, _⟩
  · exact ⟨none, 0, by rw [h0], by omega, by omega⟩
  · exact ⟨_, cap, rfl, h1, by unfold maxLen at h2; exact h2⟩

theorem Own.shape {w : World} {base : Nat} {v : Value} {l : List UInt8} (h : Own w base v l) : ∃ n p cap, v = .slice p n cap := by
  obtain ⟨p, cap, e, _⟩ := h.form
  exact ⟨_, p, cap, e⟩
structure Files (w : World) (S : Nat → Prop) (loc : List UInt8 → Nat) (dat : List UInt8 → Value) (l : List Fl) : Prop where
  each : ∀ f ∈ l, FileAt w S (loc f.name) (dat f.name) f
  apart : ∀ f ∈ l, ∀ g ∈ l, f.name ≠ g.name → loc f.name ≠ loc g.name ∧ ∀ k, (dat f.name).ownBlock = some k → (dat g.name).ownBlock ≠ some k
theorem Files.nil (w : World) (S : Nat → Prop) (loc : List UInt8 → Nat) (dat : List UInt8 → Value) : Files w S loc dat [] := ⟨(fun _ h => by cases h), (fun _ h => by cases h)⟩
theorem Files.keep {w w' : World} {S T : Nat → Prop} {loc : List UInt8 → Nat} {dat : List UInt8 → Value} {l : List Fl} (h : Files w S loc dat l)
    (hk : ∀ f ∈ l, w'.heap[loc f.name]? = w.heap[loc f.name]? ∧ ∀ k, (dat f.name).ownBlock = some k → w'.heap[k]? = w.heap[k]?) (hT : ∀ k, k < w.heap.size → S k → T k) : Files w' T loc dat l :=
  ⟨fun f hf => (h.each f hf).keep (hk f hf).1 (hk f hf).2 hT, h.apart⟩
theorem Files.sub {w : World} {S : Nat → Prop} {loc : List UInt8 → Nat} {dat : List UInt8 → Value} {l l' : List Fl} (h : Files w S loc dat l) (hs : ∀ f ∈ l', f ∈ l) : Files w S loc dat l' :=
  ⟨fun f hf => h.each f (hs f hf), fun f hf g hg => h.apart f (hs f hf) g (hs g hg)⟩
theorem Files.congr {w : World} {S : Nat → Prop} {loc loc' : List UInt8 → Nat} {dat dat' : List UInt8 → Value} {l : List Fl} (h : Files w S loc dat l) (hl : ∀ f ∈ l, loc' f.name = loc f.name ∧ dat' f.name = dat f.name) : Files w S loc' dat' l :=
  ⟨fun f hf => by rw [(hl f hf).1, (hl f hf).2]; exact h.each f hf, fun f hf g hg hne => by rw [(hl f hf).1, (hl f hf).2, (hl g hg).1, (hl g hg).2]; exact h.apart f hf g hg hne⟩

/-- The blocks of one file. -/
def FBlk (b : Nat) (v : Value) : Nat → Prop := fun k => k = b ∨ v.ownBlock = some k
/-- A file's blocks are not those of another one, nor of kinds that no file has. -/
theorem Files.other {w : World} {S : Nat → Prop} {loc : List UInt8 → Nat} {dat : List UInt8 → Value} {l : List Fl} (h : Files w S loc dat l) {f g : Fl} (hf : f ∈ l) (hg : g ∈ l) (hne : g.name ≠ f.name) :
    ¬ FBlk (loc f.name) (dat f.name) (loc g.name) ∧ ∀ k, (dat g.name).ownBlock = some k → ¬ FBlk (loc f.name) (dat f.name) k := by
  have a := h.apart g hg f hf hne
  have ef := h.each f hf
  have eg := h.each g hg
  refine ⟨?_, fun k hk => ?_⟩
  · rintro (e | e)
    · exact a.1 e
    · obtain ⟨cur, hc⟩ := ef.own.heap e
      exact kind_ne hc eg.blk (by decide) rfl
  · rintro (e | e)
    · subst e
      obtain ⟨cur, hc⟩ := eg.own.heap hk
      exact kind_ne hc ef.blk (by decide) rfl
    · exact a.2 k hk e

/-- One file is another one now (under its name, in its block); nothing else but block db has changed, which is no file's. -/
theorem Files.set {w w' : World} {S T : Nat → Prop} {loc : List UInt8 → Nat} {dat : List UInt8 → Value} {l : List Fl} (h : Files w S loc dat l) {f f' : Fl} {v' : Value} {db : Nat} {c : Array Value} {t : TypeId} {z : Nat × Nat}
    (hf : f ∈ l) (hn : f'.name = f.name) (hdb : w.heap[db]? = some (.cells c t z)) (ht1 : t ≠ 70) (ht2 : t ≠ 5)
    (hfr : Fr (fun k => k = db ∨ FBlk (loc f.name) (dat f.name) k) w w') (hnew : FileAt w' T (loc f.name) v' f') (hv : v'.ownBlock = (dat f.name).ownBlock ∨ ∀ k, v'.ownBlock = some k → w.heap.size ≤ k) (hT : ∀ k, k < w.heap.size → S k → T k) :
    Files w' T loc (upd dat f.name v') (put f' l) := by
  have hloc : ∀ g ∈ l, g.name ≠ f.name → (¬ (loc g.name = db ∨ FBlk (loc f.name) (dat f.name) (loc g.name))) ∧ ∀ k, (dat g.name).ownBlock = some k → ¬ (k = db ∨ FBlk (loc f.name) (dat f.name) k) := by
    intro g hg hne
    have o := h.other hf hg hne
    have eg := h.each g hg
    refine ⟨fun e => e.elim (fun e => kind_ne hdb (e ▸ eg.blk) ht1 rfl) o.1, fun k hk e => e.elim (fun e => ?_) (o.2 k hk)⟩
    obtain ⟨cur, hc⟩ := eg.own.heap hk
    exact kind_ne hdb (e ▸ hc) ht2 rfl
  have hsame : ∀ g ∈ l, g.name ≠ f.name → FileAt w' T (loc g.name) (dat g.name) g := by
    intro g hg hne
    have eg := h.each g hg
    refine eg.keep (hfr.block _ (block_lt eg.blk) (hloc g hg hne).1) (fun k hk => ?_) hT
    obtain ⟨cur, hc⟩ := eg.own.heap hk
    exact hfr.block k (block_lt hc) ((hloc g hg hne).2 k hk)
  have hrow : ∀ g ∈ l, g.name ≠ f.name → ∀ k, (dat g.name).ownBlock = some k → v'.ownBlock ≠ some k := by
    intro g hg hne k hk e
    rcases hv with hv | hv
    · rw [hv] at e
      exact (h.apart g hg f hf hne).2 k hk e
    · obtain ⟨cur, hc⟩ := (h.each g hg).own.heap hk
      have := hv k e
      have := block_lt hc
      omega
  refine ⟨fun g hg => ?_, fun g hg g2 hg2 hne => ?_⟩
  · rcases mem_put.1 hg with rfl | ⟨hg, hne⟩
    · rw [hn, upd_same]; exact hnew
    · rw [hn] at hne
      rw [upd_other _ _ hne]; exact hsame g hg hne
  · rcases mem_put.1 hg with e1 | ⟨m1, hgn⟩
    · rcases mem_put.1 hg2 with e2 | ⟨m2, hg2n⟩
      · exact absurd (by rw [e1, e2]) hne
      · rw [hn] at hg2n
        rw [e1, hn, upd_same, upd_other _ _ hg2n]
        exact ⟨(h.apart f hf g2 m2 (Ne.symm hg2n)).1, fun k hk e => hrow g2 m2 hg2n k e hk⟩
    · rcases mem_put.1 hg2 with e2 | ⟨m2, hg2n⟩
      · rw [hn] at hgn
        rw [e2, hn, upd_same, upd_other _ _ hgn]
        exact ⟨(h.apart g m1 f hf hgn).1, fun k hk => hrow g m1 hgn k hk⟩
      · rw [hn] at hgn hg2n
        rw [upd_other _ _ hgn, upd_other _ _ hg2n]
        exact h.apart g m1 g2 m2 hne
/-! ### the disk -/
structure DkAt (w : World) (S : Nat → Prop) (db : Nat) (D : Dsk) (mv : Value) (loc : List UInt8 → Nat) (dat : List UInt8 → Value) : Prop where
  blk : w.heap[db]? = some (.cells #[.int .i64 (D.size : Int), .int .i64 (used D.files : Int), .int .i64 (D.born : Int), mv] 52 (0, 0))
  map : MapIs w S mv loc D.files
  files : Files w S loc dat D.files
  srt : Srt D.files
  names : ∀ f ∈ D.files, f.name.length ≤ 64
  room : used D.files ≤ D.size
  size : D.size ≤ 1073741824
  inS : S db
def Dk (w : World) (S : Nat → Prop) (db : Nat) (D : Dsk) : Prop := ∃ mv loc dat, DkAt w S db D mv loc dat

section
variable {w w' : World} {S T : Nat → Prop} {db : Nat} {D : Dsk} {mv : Value} {loc : List UInt8 → Nat} {dat : List UInt8 → Value}
theorem DkAt.c0 (h : DkAt w S db D mv loc dat) : w.cell? ⟨db, 0, none⟩ = some (.int .i64 (D.size : Int)) := cell_of h.blk rfl
theorem DkAt.c1 (h : DkAt w S db D mv loc dat) : w.cell? ⟨db, 1, none⟩ = some (.int .i64 (used D.files : Int)) := cell_of h.blk rfl
theorem DkAt.c2 (h : DkAt w S db D mv loc dat) : w.cell? ⟨db, 2, none⟩ = some (.int .i64 (D.born : Int)) := cell_of h.blk rfl
theorem DkAt.c3 (h : DkAt w S db D mv loc dat) : w.cell? ⟨db, 3, none⟩ = some mv := cell_of h.blk rfl
theorem DkAt.fz (h : DkAt w S db D mv loc dat) (i : Nat) : w.frozen? ⟨db, i, none⟩ = false := frozen_of h.blk
theorem DkAt.lt (h : DkAt w S db D mv loc dat) : db < w.heap.size := block_lt h.blk
theorem Dk.lt (h : Dk w S db D) : db < w.heap.size := by
  obtain ⟨mv, loc, dat, h⟩ := h
  exact h.lt
theorem DkAt.file (h : DkAt w S db D mv loc dat) {f : Fl} (hf : f ∈ D.files) : f.data.length ≤ 1073741824 := by
  have := used_mem hf
  have := h.room
  have := h.size
  omega
theorem DkAt.block (h : DkAt w S db D mv loc dat) {f : Fl} (hf : f ∈ D.files) : db ≠ loc f.name ∧ (dat f.name).ownBlock ≠ some db := by
  have e := h.files.each f hf
  refine ⟨kind_ne h.blk e.blk (by decide), fun hk => ?_⟩
  obtain ⟨cur, hc⟩ := e.own.heap hk
  exact kind_ne h.blk hc (by decide) rfl
theorem DkAt.step (h : DkAt w S db D mv loc dat) (hf : Fr T w w') (hd : ∀ k, k < w.heap.size → S k → ¬ T k) {S' : Nat → Prop} (hS : ∀ k, k < w.heap.size → S k → S' k) : DkAt w' S' db D mv loc dat := by
  refine ⟨hf.keep h.blk (hd _ h.lt h.inS), h.map.keep (fun b e => ?_) hS, h.files.keep (fun f hm => ?_) hS, h.srt, h.names, h.room, h.size, hS _ h.lt h.inS⟩
  · rcases h.map with ⟨e2, _⟩ | ⟨mb, e2, hs, ho⟩
    · rw [e2] at e; cases e
    · rw [e2] at e
      obtain rfl : mb = b := by simpa using e
      exact hf.block mb ho.lt (hd mb ho.lt hs)
  · have e := h.files.each f hm
    refine ⟨hf.block _ (block_lt e.blk) (hd _ (block_lt e.blk) e.inS), fun k hk => ?_⟩
    obtain ⟨cur, hc⟩ := e.own.heap hk
    exact hf.block k (block_lt hc) (hd k (block_lt hc) (e.row k hk))
theorem Dk.step (h : Dk w S db D) (hf : Fr T w w') (hd : ∀ k, k < w.heap.size → S k → ¬ T k) {S' : Nat → Prop} (hS : ∀ k, k < w.heap.size → S k → S' k) : Dk w' S' db D := by
  obtain ⟨mv, loc, dat, h⟩ := h
  exact ⟨mv, loc, dat, h.step hf hd hS⟩
theorem Dk.mono (h : Dk w S db D) {S' : Nat → Prop} (hS : ∀ k, k < w.heap.size → S k → S' k) : Dk w S' db D := h.step (Fr.refl (fun _ => False) w) (fun _ _ _ hf => hf) hS
theorem Dk.after (h : Dk w S db D) (hf : Below w.heap.size w w') : Dk w' S db D := h.step (Fr.of_new hf (fun _ => False)) (fun _ _ _ hf => hf) (fun _ _ hs => hs)

/-- One file is another one, under its name. -/
theorem DkAt.setFile (h : DkAt w S db D mv loc dat) {f f' : Fl} {v' : Value} (hf : f ∈ D.files) (hn : f'.name = f.name)
    (hfr : Fr (fun k => k = db ∨ FBlk (loc f.name) (dat f.name) k) w w') (hblk : w'.heap[db]? = some (.cells #[.int .i64 (D.size : Int), .int .i64 (used (put f' D.files) : Int), .int .i64 (D.born : Int), mv] 52 (0, 0)))
    (hnew : FileAt w' T (loc f.name) v' f') (hv : v'.ownBlock = (dat f.name).ownBlock ∨ ∀ k, v'.ownBlock = some k → w.heap.size ≤ k) (hT : ∀ k, k < w.heap.size → S k → T k) (hroom : used (put f' D.files) ≤ D.size) :
    DkAt w' T db { D with files := put f' D.files } mv loc (upd dat f.name v') := by
  refine ⟨hblk, ?_, h.files.set hf hn h.blk (by decide) (by decide) hfr hnew hv hT, h.srt.put f', fun g hg => ?_, hroom, h.size, hT _ h.lt h.inS⟩
  · rcases h.map with ⟨_, e2⟩ | ⟨mb, e2, hs, ho⟩
    · rw [e2] at hf; cases hf
    · refine .inr ⟨mb, e2, hT mb ho.lt hs, ?_⟩
      show w'.ownsMap Tryz.prog 9 ptrElem mb (put f' D.files).length (dm loc (put f' D.files))
      rw [dm_same h.srt hf hn, length_same h.srt hf hn]
      refine own_block ho (hfr.block mb ho.lt fun e => ?_)
      have ef := h.files.each f hf
      rcases e with e | e | e
      · exact own_kind ho h.blk e
      · exact own_kind ho ef.blk e
      · obtain ⟨cur, hc⟩ := ef.own.heap e
        exact own_kind ho hc rfl
  · rcases mem_put.1 hg with rfl | ⟨hg, _⟩
    · rw [hn]; exact h.names f hf
    · exact h.names g hg
end
end Go.Proofs.YtlbfgkocpjlamaaGreatDoor
