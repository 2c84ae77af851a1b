/-
  For the disk's Twin: a file's twin; the twin of a disk under way.
-/
import Derived.Test.YtlekffhacmdnnaaLoW
namespace Go.Proofs.Ytlekffhacmdnnaa
open Go.RowKit Go.Maps

theorem srt_ext : ∀ {a b : List Fl}, Srt a → Srt b → (∀ x, x ∈ a ↔ x ∈ b) → a = b
  | [], [], _, _, _ => rfl
  | [], g :: s, _, _, h => by have := (h g).2 (by simp); cases this
  | f :: r, [], _, _, h => by have := (h f).1 (by simp); cases this
  | f :: r, g :: s, ha, hb, h => by
    have ca := List.pairwise_cons.1 ha
    have cb := List.pairwise_cons.1 hb
    have hfg : f = g := by
      have h1 := (h f).1 (by simp)
      have h2 := (h g).2 (by simp)
      rcases List.mem_cons.1 h1 with h1 | h1
      · exact h1
      · rcases List.mem_cons.1 h2 with h2 | h2
        · exact h2.symm
        · have h3 := cb.1 f h1
          have h4 := ca.1 g h2
          rw [before_asymm h4] at h3
          cases h3
    subst hfg
    have hf1 : f ∉ r := fun hm => by
      have := ca.1 f hm
      rw [Go.WideAt.bytes_irrefl] at this
      cases this
    have hf2 : f ∉ s := fun hm => by
      have := cb.1 f hm
      rw [Go.WideAt.bytes_irrefl] at this
      cases this
    rw [srt_ext ca.2 cb.2 fun x => ⟨fun hx => by
      rcases List.mem_cons.1 ((h x).1 (by simp [hx])) with rfl | h1
      · exact absurd hx hf1
      · exact h1, fun hx => by
      rcases List.mem_cons.1 ((h x).2 (by simp [hx])) with rfl | h1
      · exact absurd hx hf2
      · exact h1⟩]

theorem mk_hint (n : Int) (w : World) : (Instr.makeMap 65 (some (.int .i64 n))).run Try.prog w = .ok (.map (some w.heap.size)) (w.alloc (.map #[] 0)) := by
  simp [Instr.makeMap, run_underlying Try.underlying65, asInt, asIntOf, Result.andThen]

set_option maxHeartbeats 1000000 in
theorem ftwin_any (w : World) (S : Nat → Prop) (b : Nat) (v : Value) (f : Fl) (h : FileAt w S b v f) (hl : f.data.length ≤ 1073741824) :
    Calls Try.prog 45 #[.pointer (some ⟨b, 0, none⟩)] w fun e w' => ∃ b' v', e = .returned (.pointer (some ⟨b', 0, none⟩)) ∧ FileAt w' (fun k => w.heap.size ≤ k) b' v' f ∧ Below w.heap.size w w' := by
  have c0 := h.c0
  have c1 := h.c1
  have hbl := h.lt
  have HLe := Lib.hid h.le
  have HRd := Lib.hid (h.own.rd (by omega))
  obtain ⟨p, cap, rfl, hcap, hcm⟩ := h.own.form
  clear h
  go_enter Try.func45, Try.ntmps45
  go_wp2_with fail
  go_region_with (first
    | (go_at_call 46; refine (clone_any _ f.data _ ?_).mono ?_; (exact HRd.out.drewN _); rintro e w1 ⟨v1, rfl, ho, hb⟩; obtain ⟨n1, p1, cap1, rfl⟩ := ho.shape; have c1b := (below_cells hb b 1 hbl).trans c1; have HB := Lib.hid hb; have HO := Lib.hid ho; clear hb ho))
  all_goals
    go_wp2_with fail
    go_ret
    have hb' : Below w.heap.size w w1 := ⟨HB.out.os, HB.out.tape, HB.out.output, HB.out.size, HB.out.block⟩
    refine ⟨_, _, rfl, ⟨heap_alloc_new w1 _, (HO.out.alloc _).low, HLe.out, hb'.size, fun k hk => HO.out.block k hk⟩, hb'.alloc hb'.size _⟩

/-- The twin of a disk under way: its block, its map, the files that it has by now. -/
structure Tw (n : Nat) (w : World) (xb mb : Nat) (D : Dsk) (F : List Fl) (loc : List UInt8 → Nat) (dat : List UInt8 → Value) : Prop where
  blk : w.heap[xb]? = some (.cells #[.int .i64 (D.size : Int), .int .i64 (used D.files : Int), .int .i64 (D.born : Int), .map (some mb)] 67 (0, 0))
  map : w.ownsMap Try.prog 9 ptrElem mb F.length (dm loc F)
  files : Files w (fun k => n ≤ k) loc dat F
  srt : Srt F
  low : n ≤ xb ∧ n ≤ mb
section
variable {w w1 w2 : World} {n xb mb : Nat} {D : Dsk} {F : List Fl} {loc : List UInt8 → Nat} {dat : List UInt8 → Value}
theorem Tw.lt (h : Tw n w xb mb D F loc dat) : xb < w.heap.size := block_lt h.blk
theorem Tw.c3 (h : Tw n w xb mb D F loc dat) : w.cell? ⟨xb, 3, none⟩ = some (.map (some mb)) := cell_of h.blk rfl
theorem Tw.ne (h : Tw n w xb mb D F loc dat) : mb ≠ xb := own_kind h.map h.blk
/-- What leaves the map, the block and the files alone. -/
theorem Tw.keep (h : Tw n w xb mb D F loc dat) (hk : ∀ k, k < w.heap.size → n ≤ k → (∃ c t z, w.heap[k]? = some (.cells c t z)) ∨ k = mb → w1.heap[k]? = w.heap[k]?) : Tw n w1 xb mb D F loc dat := by
  refine ⟨(hk xb h.lt h.low.1 (.inl ⟨_, _, _, h.blk⟩)).trans h.blk, own_block h.map (hk mb h.map.lt h.low.2 (.inr rfl)), h.files.keep (fun f hf => ?_) (fun _ _ hs => hs), h.srt, h.low⟩
  have e := h.files.each f hf
  refine ⟨hk _ e.lt e.inS (.inl ⟨_, _, _, e.blk⟩), fun k hk2 => ?_⟩
  obtain ⟨cur, hc⟩ := e.own.heap hk2
  exact hk k (block_lt hc) (e.row k hk2) (.inl ⟨_, _, _, hc⟩)
theorem Tw.below (h : Tw n w xb mb D F loc dat) (hb : Below w.heap.size w w1) : Tw n w1 xb mb D F loc dat := h.keep fun k hk _ _ => hb.block k hk
/-- One file more. -/
theorem Tw.add (h : Tw n w xb mb D F loc dat) {f : Fl} {b m : Nat} {v : Value} (hb : Below w.heap.size w w1) (hf : FileAt w1 (fun k => w.heap.size ≤ k) b v f) (hn : look f.name F = none)
    (hmap : w2.ownsMap Try.prog 9 ptrElem mb m ((dm loc F).put (.string f.name) (.held b))) (hg : w1.grownBy w2 (some mb)) (hw : n ≤ w.heap.size) :
    Tw n w2 xb mb D (put f F) (upd loc f.name b) (upd dat f.name v) := by
  have h1 := h.below hb
  have hoth : ∀ k, k < w1.heap.size → k ≠ mb → w2.heap[k]? = w1.heap[k]? := fun k hk hne => hg.block k hk (fun e => hne (Option.some.inj e))
  rw [dm_put] at hmap
  have hbm : b ≠ mb := Ne.symm (own_kind h1.map hf.blk)
  have hbl := hf.lt
  refine ⟨(hoth xb h1.lt (Ne.symm h1.ne)).trans h1.blk, own_exact hmap, ⟨fun g hg2 => ?_, fun g hg1 g2 hg2 hne => ?_⟩, h.srt.put f, h.low⟩
  · rcases mem_put.1 hg2 with rfl | ⟨hg2, hgn⟩
    · rw [upd_same, upd_same]
      refine hf.keep (hoth _ hbl hbm) (fun k hk => ?_) (fun k _ hs => Nat.le_trans hw hs)
      obtain ⟨cur, hc⟩ := hf.own.heap hk
      exact hoth k (block_lt hc) (Ne.symm (own_kind h1.map hc))
    · rw [upd_other _ _ hgn, upd_other _ _ hgn]
      have e := h1.files.each g hg2
      refine e.keep (hoth _ e.lt (Ne.symm (own_kind h1.map e.blk))) (fun k hk => ?_) (fun _ _ hs => hs)
      obtain ⟨cur, hc⟩ := e.own.heap hk
      exact hoth k (block_lt hc) (Ne.symm (own_kind h1.map hc))
  · have hold : ∀ g ∈ F, loc g.name < w.heap.size ∧ ∀ k, (dat g.name).ownBlock = some k → k < w.heap.size := fun g hg => by
      have e := h.files.each g hg
      refine ⟨e.lt, fun k hk => ?_⟩
      obtain ⟨cur, hc⟩ := e.own.heap hk
      exact block_lt hc
    have hbn : w.heap.size ≤ b := hf.inS
    rcases mem_put.1 hg1 with e1 | ⟨m1, hgn⟩
    · rcases mem_put.1 hg2 with e2 | ⟨m2, hg2n⟩
      · exact absurd (by rw [e1, e2]) hne
      · rw [e1, upd_same, upd_same, upd_other _ _ hg2n, upd_other _ _ hg2n]
        have o := hold g2 m2
        refine ⟨by omega, fun k hk e => ?_⟩
        have := o.2 k e
        have : w.heap.size ≤ k := hf.row k hk
        omega
    · rcases mem_put.1 hg2 with e2 | ⟨m2, hg2n⟩
      · rw [e2, upd_same, upd_same, upd_other _ _ hgn, upd_other _ _ hgn]
        have o := hold g m1
        refine ⟨by omega, fun k hk e => ?_⟩
        have := o.2 k hk
        have : w.heap.size ≤ k := hf.row k e
        omega
      · rw [upd_other _ _ hgn, upd_other _ _ hgn, upd_other _ _ hg2n, upd_other _ _ hg2n]
        exact h1.files.apart g m1 g2 m2 hne
/-- All files are there. -/
theorem Tw.done {S : Nat → Prop} {db : Nat} (h : Tw n w xb mb D F loc dat) (hd : Dk w S db D) (he : ∀ x, x ∈ F ↔ x ∈ D.files) : Dk w (fun k => n ≤ k) xb D := by
  obtain ⟨_, _, _, hd⟩ := hd
  have e := srt_ext h.srt hd.srt he
  subst e
  exact ⟨_, loc, dat, h.blk, .inr ⟨mb, rfl, h.low.2, h.map⟩, h.files, h.srt, hd.names, hd.room, hd.size, h.low.1⟩
end
end Go.Proofs.Ytlekffhacmdnnaa
