/-
  A disk in memory: a file is added, a file is gone.
-/
import Derived.Test.YtlekffhacmdnnaaDk
namespace Go.Proofs.Ytlekffhacmdnnaa
open Go.RowKit Go.Maps

/-- The disk's own block and its map's. -/
def DBlk (db : Nat) (mv : Value) : Nat → Prop := fun k => k = db ∨ mv = .map (some k)

section
variable {w w' : World} {S T : Nat → Prop} {db : Nat} {D : Dsk} {mv : Value} {loc : List UInt8 → Nat} {dat : List UInt8 → Value}
theorem DkAt.dblk (h : DkAt w S db D mv loc dat) : ∀ k, DBlk db mv k → S k := by
  rintro k (rfl | e)
  · exact h.inS
  · rcases h.map with ⟨e2, _⟩ | ⟨mb, e2, hs, _⟩
    · rw [e2] at e; cases e
    · rw [e2] at e
      obtain rfl : mb = k := by simpa using e
      exact hs
/-- A file's blocks are neither the disk's own nor its map's. -/
theorem DkAt.free (h : DkAt w S db D mv loc dat) {b : Nat} {c : Array Value} {t : TypeId} {z : Nat × Nat} (hb : w.heap[b]? = some (.cells c t z)) (ht : t ≠ 67) : ¬ DBlk db mv b := by
  rintro (e | e)
  · subst e
    exact kind_ne hb h.blk ht rfl
  · rcases h.map with ⟨e2, _⟩ | ⟨mb, e2, _, ho⟩
    · rw [e2] at e; cases e
    · rw [e2] at e
      obtain rfl : mb = b := by simpa using e
      exact own_kind ho hb rfl
theorem DkAt.filesKeep (h : DkAt w S db D mv loc dat) (hfr : Fr (DBlk db mv) w w') (hT : ∀ k, k < w.heap.size → S k → T k) : Files w' T loc dat D.files :=
  h.files.keep (fun f hf => by
    have e := h.files.each f hf
    refine ⟨hfr.block _ e.lt (h.free e.blk (by decide)), fun k hk => ?_⟩
    obtain ⟨cur, hc⟩ := e.own.heap hk
    exact hfr.block k (block_lt hc) (h.free hc (by decide))) hT

theorem DkAt.addFile (h : DkAt w S db D mv loc dat) {f : Fl} {v : Value} {b mb n : Nat} (hfr : Fr (DBlk db mv) w w')
    (hblk : w'.heap[db]? = some (.cells #[.int .i64 (D.size : Int), .int .i64 (used (put f D.files) : Int), .int .i64 (D.born : Int), .map (some mb)] 67 (0, 0)))
    (hmap : w'.ownsMap Try.prog 9 ptrElem mb n (dm (upd loc f.name b) (put f D.files))) (hmb : T mb) (hnew : FileAt w' T b v f)
    (hap : ∀ g ∈ D.files, g.name ≠ f.name → b ≠ loc g.name ∧ ∀ k, v.ownBlock = some k → (dat g.name).ownBlock ≠ some k)
    (hT : ∀ k, k < w.heap.size → S k → T k) (hname : f.name.length ≤ 64) (hroom : used (put f D.files) ≤ D.size) :
    DkAt w' T db { D with files := put f D.files } (.map (some mb)) (upd loc f.name b) (upd dat f.name v) := by
  have hk := h.filesKeep hfr hT
  refine ⟨hblk, .inr ⟨mb, rfl, hmb, own_exact hmap⟩, ⟨fun g hg => ?_, fun g hg g2 hg2 hne => ?_⟩, h.srt.put f, fun g hg => ?_, hroom, h.size, hT _ h.lt h.inS⟩
  · rcases mem_put.1 hg with rfl | ⟨hg, hgn⟩
    · rw [upd_same, upd_same]; exact hnew
    · rw [upd_other _ _ hgn, upd_other _ _ hgn]; exact hk.each g hg
  · rcases mem_put.1 hg with e1 | ⟨m1, hgn⟩
    · rcases mem_put.1 hg2 with e2 | ⟨m2, hg2n⟩
      · exact absurd (by rw [e1, e2]) hne
      · rw [e1, upd_same, upd_same, upd_other _ _ hg2n, upd_other _ _ hg2n]
        exact hap g2 m2 hg2n
    · rcases mem_put.1 hg2 with e2 | ⟨m2, hg2n⟩
      · rw [e2, upd_same, upd_same, upd_other _ _ hgn, upd_other _ _ hgn]
        exact ⟨Ne.symm (hap g m1 hgn).1, fun k hk2 e => (hap g m1 hgn).2 k e hk2⟩
      · rw [upd_other _ _ hgn, upd_other _ _ hgn, upd_other _ _ hg2n, upd_other _ _ hg2n]
        exact h.files.apart g m1 g2 m2 hne
  · rcases mem_put.1 hg with rfl | ⟨hg, _⟩
    · exact hname
    · exact h.names g hg

theorem DkAt.delFile (h : DkAt w S db D mv loc dat) {s : List UInt8} {mb n : Nat} (hmv : mv = .map (some mb)) (hfr : Fr (DBlk db mv) w w')
    (hblk : w'.heap[db]? = some (.cells #[.int .i64 (D.size : Int), .int .i64 (used (del s D.files) : Int), .int .i64 (D.born : Int), mv] 67 (0, 0)))
    (hmap : w'.ownsMap Try.prog 9 ptrElem mb n (dm loc (del s D.files))) (hT : ∀ k, k < w.heap.size → S k → T k) :
    DkAt w' T db { D with files := del s D.files } mv loc dat := by
  have hk := h.filesKeep hfr hT
  have hu := used_del h.srt s
  have hroom := h.room
  refine ⟨hblk, .inr ⟨mb, hmv, hT mb ?_ (h.dblk mb (.inr hmv)), own_exact hmap⟩, hk.sub fun f hf => (mem_del.1 hf).1, h.srt.del s, fun f hf => h.names f (mem_del.1 hf).1, ?_, h.size, hT _ h.lt h.inS⟩
  · rcases h.map with ⟨e2, _⟩ | ⟨mb', e2, _, ho⟩
    · rw [e2] at hmv; cases hmv
    · rw [e2] at hmv
      obtain rfl : mb' = mb := by simpa using hmv
      exact ho.lt
  · show used (del s D.files) ≤ D.size
    omega
theorem used_fresh {l : List Fl} (h : Srt l) {s : List UInt8} (hn : look s l = none) : used (put ⟨s, [], 0⟩ l) = used l := by
  have := used_put h ⟨s, [], 0⟩
  simp only [hn, List.length_nil] at this
  omega
/-- A new file without bytes. -/
theorem DkAt.fresh (h : DkAt w S db D mv loc dat) {s : List UInt8} (hn : look s D.files = none) (hs : s.length ≤ 64) {b mb n : Nat} (hfr : Fr (DBlk db mv) w w')
    (hblk : w'.heap[db]? = some (.cells #[.int .i64 (D.size : Int), .int .i64 (used D.files : Int), .int .i64 (D.born : Int), .map (some mb)] 67 (0, 0)))
    (hfile : w'.heap[b]? = some (.cells #[.slice none 0 0, .int .i64 0] 81 (0, 0))) (hb : w.heap.size ≤ b)
    (hmap : w'.ownsMap Try.prog 9 ptrElem mb n ((dm loc D.files).put (.string s) (.held b))) (hmb : S mb ∨ w.heap.size ≤ mb) :
    DkAt w' (More S w.heap.size) db { D with files := put ⟨s, [], 0⟩ D.files } (.map (some mb)) (upd loc s b) (upd dat s (.slice none 0 0)) := by
  have hu := used_fresh h.srt hn
  refine h.addFile (f := ⟨s, [], 0⟩) (v := .slice none 0 0) (n := n) hfr (by rw [hu]; exact hblk) ?_ hmb ⟨hfile, ⟨rfl, .inl ⟨rfl, rfl⟩⟩, Nat.le_refl _, .inr hb, fun k hk => by cases hk⟩ (fun g hg _ => ⟨?_, fun k hk => by cases hk⟩) (fun _ _ hs => .inl hs) hs (by rw [hu]; exact h.room)
  · rw [← dm_put loc D.files ⟨s, [], 0⟩ b]
    exact hmap
  · have := (h.files.each g hg).lt
    omega
theorem DkAt.hasMap (h : DkAt w S db D mv loc dat) {f : Fl} (hf : f ∈ D.files) : ∃ mb, mv = .map (some mb) ∧ w.ownsMap Try.prog 9 ptrElem mb D.files.length (dm loc D.files) ∧ mb ≠ db := by
  rcases h.map with ⟨_, e⟩ | ⟨mb, e, _, ho⟩
  · rw [e] at hf; cases hf
  · exact ⟨mb, e, ho, own_kind ho h.blk⟩

/-- What a walk reads behind an append onto a file's bytes, ahead of and behind the store of the slice. -/
theorem DkAt.behind (h : DkAt w S db D mv loc dat) {f : Fl} (hf : f ∈ D.files) {w1 : World} (hg : w.grownBy w1 (dat f.name).ownBlock) (v1 : Value) :
    w1.heap[loc f.name]? = some (.cells #[dat f.name, .int .i64 (f.synced : Int)] 81 (0, 0)) ∧
    (w1.setCell ⟨loc f.name, 0, none⟩ v1).heap[loc f.name]? = some (.cells #[v1, .int .i64 (f.synced : Int)] 81 (0, 0)) ∧
    (w1.setCell ⟨loc f.name, 0, none⟩ v1).heap[db]? = some (.cells #[.int .i64 (D.size : Int), .int .i64 (used D.files : Int), .int .i64 (D.born : Int), mv] 67 (0, 0)) := by
  have e := h.files.each f hf
  have b := h.block hf
  have e1 : w1.heap[loc f.name]? = some (.cells #[dat f.name, .int .i64 (f.synced : Int)] 81 (0, 0)) := (hg.block _ e.lt (fun e2 => by
    obtain ⟨cur, hc⟩ := e.own.heap e2.symm
    exact kind_ne hc e.blk (by decide) rfl)).trans e.blk
  exact ⟨e1, setCell_same e1 _, (setCell_other b.1 _).trans ((hg.block _ h.lt (fun e2 => b.2 e2.symm)).trans h.blk)⟩
theorem DkAt.grow (h : DkAt w S db D mv loc dat) {f : Fl} (hf : f ∈ D.files) {m : List UInt8} {v1 : Value} {w1 : World} (hown1 : Own w1 0 v1 (f.data ++ m)) (hg : w.grownBy w1 (dat f.name).ownBlock)
    (hat : v1.ownBlock = (dat f.name).ownBlock ∨ v1.ownBlock = some w.heap.size) (hw : w' = (w1.setCell ⟨loc f.name, 0, none⟩ v1).setCell ⟨db, 1, none⟩ (.int .i64 ((used D.files : Int) + (m.length : Int))))
    (hS : ∀ k, w.heap.size ≤ k → S k) (hroom : used D.files + m.length ≤ D.size) :
    DkAt w' S db { D with files := put ⟨f.name, f.data ++ m, f.synced⟩ D.files } mv loc (upd dat f.name v1) ∧ Fr S w w' := by
  subst hw
  have e := h.files.each f hf
  have b := h.block hf
  obtain ⟨_, b2, b3⟩ := h.behind hf hg v1
  have hu := used_grow h.srt f.name f.data m f.synced
  rw [show (⟨f.name, f.data, f.synced⟩ : Fl) = f from rfl, put_self h.srt hf] at hu
  have hfr : Fr (fun k => k = db ∨ FBlk (loc f.name) (dat f.name) k) w ((w1.setCell ⟨loc f.name, 0, none⟩ v1).setCell ⟨db, 1, none⟩ (.int .i64 ((used D.files : Int) + (m.length : Int)))) :=
    (Fr.grown hg (fun k e2 => .inr (.inr e2))).then ((Fr.setCell _ w1 (p := ⟨loc f.name, 0, none⟩) (.inr (.inl rfl)) v1).then (Fr.setCell _ _ (p := ⟨db, 1, none⟩) (.inl rfl) _))
  have hrow : ∀ k, v1.ownBlock = some k → k ≠ loc f.name ∧ k ≠ db := fun k hk => by
    obtain ⟨cur, hc⟩ := hown1.heap hk
    refine ⟨?_, ?_⟩
    · rintro rfl
      exact kind_ne hc (h.behind hf hg v1).1 (by decide) rfl
    · rintro rfl
      have := (hg.block _ h.lt (fun e2 => b.2 e2.symm)).trans h.blk
      exact kind_ne hc this (by decide) rfl
  refine ⟨h.setFile (f := f) (f' := ⟨f.name, f.data ++ m, f.synced⟩) hf rfl hfr ?_ ⟨?_, ?_, ?_, e.inS, ?_⟩ ?_ (fun _ _ hs => hs) (by rw [hu]; exact hroom), hfr.mono ?_⟩
  · rw [setCell_same b3, hu, Int.natCast_add]
    rfl
  · exact (setCell_other (Ne.symm b.1) _).trans b2
  · exact hown1.keep fun k hk => (setCell_other (hrow k hk).2 _).trans (setCell_other (hrow k hk).1 _)
  · rw [List.length_append]
    have := e.le
    show f.synced ≤ _
    omega
  · intro k hk
    rcases hat with hat | hat
    · exact e.row k (hat.symm.trans hk)
    · rw [hat] at hk
      exact hS k (by rw [← Option.some.inj hk]; exact Nat.le_refl _)
  · rcases hat with hat | hat
    · exact .inl hat
    · exact .inr fun k hk => by rw [hat] at hk; rw [← Option.some.inj hk]; exact Nat.le_refl _
  · rintro k _ (rfl | rfl | hk)
    · exact h.inS
    · exact e.inS
    · exact e.row k hk

/-- Another count of synced bytes. -/
theorem DkAt.sync (h : DkAt w S db D mv loc dat) {f : Fl} (hf : f ∈ D.files) :
    DkAt (w.setCell ⟨loc f.name, 1, none⟩ (.int .i64 (f.data.length : Int))) S db { D with files := put ⟨f.name, f.data, f.data.length⟩ D.files } mv loc (upd dat f.name (dat f.name)) ∧ Fr S w (w.setCell ⟨loc f.name, 1, none⟩ (.int .i64 (f.data.length : Int))) := by
  have e := h.files.each f hf
  have b := h.block hf
  have hu := used_same h.srt (f' := ⟨f.name, f.data, f.data.length⟩) hf rfl rfl
  have hfr : Fr (fun k => k = db ∨ FBlk (loc f.name) (dat f.name) k) w (w.setCell ⟨loc f.name, 1, none⟩ (.int .i64 (f.data.length : Int))) := Fr.setCell _ w (p := ⟨loc f.name, 1, none⟩) (.inr (.inl rfl)) _
  refine ⟨h.setFile (f := f) (f' := ⟨f.name, f.data, f.data.length⟩) hf rfl hfr ?_ ⟨?_, ?_, Nat.le_refl _, e.inS, e.row⟩ (.inl rfl) (fun _ _ hs => hs) (by rw [hu]; exact h.room), hfr.mono ?_⟩
  · rw [hu]
    exact (setCell_other b.1 _).trans h.blk
  · rw [setCell_same e.blk]
    rfl
  · refine e.own.keep fun k hk => setCell_other ?_ _
    rintro rfl
    obtain ⟨cur, hc⟩ := e.own.heap hk
    exact kind_ne hc e.blk (by decide) rfl
  · rintro k _ (rfl | rfl | hk)
    · exact h.inS
    · exact e.inS
    · exact e.row k hk

/-- A file is called by a new name. -/
theorem DkAt.move (h : DkAt w S db D mv loc dat) {f : Fl} (hf : f ∈ D.files) {s : List UInt8} (hs : s.length ≤ 64) (hn : look s D.files = none) {mb n : Nat} (hmv : mv = .map (some mb)) (hfr : Fr (DBlk db mv) w w') (hblk : w'.heap[db]? = w.heap[db]?)
    (hmap : w'.ownsMap Try.prog 9 ptrElem mb n (((dm loc D.files).del (.string f.name)).put (.string s) (.held (loc f.name)))) :
    DkAt w' S db { D with files := put ⟨s, f.data, f.synced⟩ (del f.name D.files) } mv (upd loc s (loc f.name)) (upd dat s (dat f.name)) := by
  have hk := h.filesKeep hfr (fun _ _ hs => hs)
  have hmb : S mb := h.dblk mb (.inr hmv)
  have hd1 := used_del h.srt f.name
  rw [look_mem h.srt hf] at hd1
  have hns : look s (del f.name D.files) = none := look_none.2 fun g hg => look_none.1 hn g (mem_del.1 hg).1
  have hp := used_put (h.srt.del f.name) ⟨s, f.data, f.synced⟩
  simp only [hns] at hp
  have hu : used (put ⟨s, f.data, f.synced⟩ (del f.name D.files)) = used D.files := by simp only at hd1; omega
  have hne : ∀ g ∈ del f.name D.files, g.name ≠ s ∧ g ∈ D.files ∧ g.name ≠ f.name := fun g hg => ⟨look_none.1 hn g (mem_del.1 hg).1, mem_del.1 hg⟩
  refine ⟨?_, .inr ⟨mb, hmv, hmb, ?_⟩, ⟨fun g hg => ?_, fun g hg g2 hg2 hne2 => ?_⟩, (h.srt.del _).put _, fun g hg => ?_, ?_, h.size, h.inS⟩
  · show w'.heap[db]? = some (.cells #[.int .i64 (D.size : Int), .int .i64 (used (put ⟨s, f.data, f.synced⟩ (del f.name D.files)) : Int), .int .i64 (D.born : Int), mv] 67 (0, 0))
    rw [hu, hblk]
    exact h.blk
  · rw [dm_del] at hmap
    have := dm_put loc (del f.name D.files) ⟨s, f.data, f.synced⟩ (loc f.name)
    rw [this] at hmap
    exact own_exact hmap
  · rcases mem_put.1 hg with rfl | ⟨hg, hgn⟩
    · have e := hk.each f hf
      rw [upd_same, upd_same]
      exact ⟨e.blk, e.own, e.le, e.inS, e.row⟩
    · rw [upd_other _ _ hgn, upd_other _ _ hgn]
      exact hk.each g (hne g hg).2.1
  · rcases mem_put.1 hg with e1 | ⟨m1, hgn⟩
    · rcases mem_put.1 hg2 with e2 | ⟨m2, hg2n⟩
      · exact absurd (by rw [e1, e2]) hne2
      · rw [e1, upd_same, upd_same, upd_other _ _ hg2n, upd_other _ _ hg2n]
        exact h.files.apart f hf g2 (hne g2 m2).2.1 (Ne.symm (hne g2 m2).2.2)
    · rcases mem_put.1 hg2 with e2 | ⟨m2, hg2n⟩
      · rw [e2, upd_same, upd_same, upd_other _ _ hgn, upd_other _ _ hgn]
        exact h.files.apart g (hne g m1).2.1 f hf (hne g m1).2.2
      · rw [upd_other _ _ hgn, upd_other _ _ hgn, upd_other _ _ hg2n, upd_other _ _ hg2n]
        exact h.files.apart g (hne g m1).2.1 g2 (hne g2 m2).2.1 hne2
  · rcases mem_put.1 hg with rfl | ⟨hg, _⟩
    · exact hs
    · exact h.names g (hne g hg).2.1
  · show used (put ⟨s, f.data, f.synced⟩ (del f.name D.files)) ≤ D.size
    rw [hu]
    exact h.room

/-- Other bytes, in a new row. -/
theorem FileAt.cut {b : Nat} {v v1 : Value} {f : Fl} {m : List UInt8} {w1 : World} (h : FileAt w S b v f) (hb : Below w.heap.size w w1) (ho : Own w1 w.heap.size v1 m) (hm : f.synced ≤ m.length) :
    FileAt (w1.setCell ⟨b, 0, none⟩ v1) (More S w.heap.size) b v1 ⟨f.name, m, f.synced⟩ ∧ Fr (fun k => k = b) w (w1.setCell ⟨b, 0, none⟩ v1) := by
  have e1 : w1.heap[b]? = some (.cells #[v, .int .i64 (f.synced : Int)] 81 (0, 0)) := (hb.block b h.lt).trans h.blk
  refine ⟨⟨?_, ?_, hm, .inl h.inS, fun k hk => .inr (World.ownsRow.lt ho k hk).1⟩, (Fr.of_new hb _).then (Fr.setCell (fun k => k = b) w1 (p := ⟨b, 0, none⟩) (show b = b from rfl) v1)⟩
  · rw [setCell_same e1]
    rfl
  · refine ho.low.keep fun k hk => setCell_other ?_ _
    have := (World.ownsRow.lt ho k hk).1
    have := h.lt
    omega
theorem FileAt.synced {b : Nat} {v : Value} {f : Fl} (h : FileAt w S b v f) :
    FileAt (w.setCell ⟨b, 1, none⟩ (.int .i64 (f.data.length : Int))) S b v ⟨f.name, f.data, f.data.length⟩ ∧ Fr (fun k => k = b) w (w.setCell ⟨b, 1, none⟩ (.int .i64 (f.data.length : Int))) := by
  refine ⟨⟨?_, ?_, Nat.le_refl _, h.inS, h.row⟩, Fr.setCell (fun k => k = b) w (p := ⟨b, 1, none⟩) (show b = b from rfl) _⟩
  · rw [setCell_same h.blk]
    rfl
  · refine h.own.keep fun k hk => setCell_other ?_ _
    rintro rfl
    obtain ⟨cur, hc⟩ := h.own.heap hk
    exact kind_ne hc h.blk (by decide) rfl
end
end Go.Proofs.Ytlekffhacmdnnaa
