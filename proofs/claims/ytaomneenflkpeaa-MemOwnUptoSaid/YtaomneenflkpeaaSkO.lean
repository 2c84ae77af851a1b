/-
  The walk over a table's Put.
-/
import Derived.Test.YtaomneenflkpeaaSkN
namespace Go.Proofs.Ytaomneenflkpeaa
open Go.RowKit

theorem SkAt.sized {w : World} {S : Nat → Prop} {mb : Nat} {T : PTb} {sz : Nat} {dv hv : Value} {hh : Nat} {ns : List Nd} {bk : Option Nat} (h : SkAt w S mb T sz dv hv hh ns bk) (sz' : Nat) : SkAt (w.setCell ⟨mb, 1, none⟩ (.int .i64 (sz' : Int))) S mb T sz' dv hv hh ns bk := by
  have hf : Fr (fun k => k = mb) w (w.setCell ⟨mb, 1, none⟩ (.int .i64 (sz' : Int))) := Fr.setCell (fun k => k = mb) w (p := ⟨mb, 1, none⟩) rfl _
  refine h.turn hf ?_ h.bnil (fun b hb => ?_)
  · have := setCell_same (off := 1) h.blk (.int .i64 (sz' : Int))
    simpa [tbC] using this
  · obtain ⟨h1, h2⟩ := h.blank b hb
    exact ⟨h1, hf.keep h2 (kind_ne h2 h.blk (by decide))⟩
/-- Behind the list's put: the table, the version that was there in block g, the new one in block vb. -/
structure PutSt (w : World) (S : Nat → Prop) (mb : Nat) (T : PTb) (x y : Ent) (dv : Value) (hh n : Nat) (ns : List Nd) (bk : Option Nat) (fd : Bool) (vb g : Nat) (wx : World) : Prop where
  sk : ∃ hv' ns' bk', SkAt wx (More S w.heap.size) mb (putT T x) (sizeE T.L) dv hv' (if fd = true then hh else max hh n) ns' bk' ∧ PutTo wx ns ns' bk bk' (plcE x T.L) x fd
  fr : Fr S w wx
  was : wx.heap[g]? = some (.cells #[.string ⟨y.key.toArray⟩, .int .u64 (y.seq : Int), .bool y.gone, .string ⟨y.val.toArray⟩] 59 (0, 0))
  new : wx.heap[vb]? = some (.cells #[.string ⟨x.key.toArray⟩, .int .u64 (x.seq : Int), .bool x.gone, .string ⟨x.val.toArray⟩] 59 (0, 0))
theorem PutSt.of {w : World} {S : Nat → Prop} {mb : Nat} {T : PTb} {x y : Ent} {dv : Value} {hh n : Nat} {ns : List Nd} {bk : Option Nat} {fd : Bool} {vb g : Nat} {U wp V Z : World} (hSl : ∀ k, S k → k < w.heap.size) (hbl : ∀ b, bk = some b → b < w.heap.size) (hU : Below w.heap.size w U)
    (h : ∃ hv' ns' bk', SkAt wp (More S U.heap.size) mb (putT T x) (sizeE T.L) dv hv' (if fd = true then hh else max hh n) ns' bk' ∧ PutTo wp ns ns' bk bk' (plcE x T.L) x fd) (hf : Fr S U wp)
    (hV : Below wp.heap.size wp V) (hg : g < U.heap.size ∨ wp.heap.size ≤ g) (hwg : w.heap.size ≤ g) (hZ : Fr (fun k => k = g) V Z)
    (hwas : Z.heap[g]? = some (.cells #[.string ⟨y.key.toArray⟩, .int .u64 (y.seq : Int), .bool y.gone, .string ⟨y.val.toArray⟩] 59 (0, 0)))
    (hvb : U.heap[vb]? = some (.cells #[.string ⟨x.key.toArray⟩, .int .u64 (x.seq : Int), .bool x.gone, .string ⟨x.val.toArray⟩] 59 (0, 0))) (hvg : vb ≠ g) (hvw : w.heap.size ≤ vb) : PutSt w S mb T x y dv hh n ns bk fd vb g Z := by
  obtain ⟨hv', ns', bk', h1, h2⟩ := h
  have hs := hU.size
  have hs2 := hf.size
  have hs3 := hV.size
  have h1 := h1.mono (S' := fun k => More S U.heap.size k ∧ k < wp.heap.size) (fun k hk hs => ⟨hs, hk⟩)
  refine ⟨⟨hv', ns', bk', (h1.after hV).step hZ (fun k hk hs e => ?_) (fun k _ hk => hk.1.elim (fun h => .inl h) (fun h => .inr (by omega))), (h2.step (Fr.of_new hV (fun _ => False)) (fun _ _ hf => hf)).step hZ (fun b hb e => by have := hbl b hb; omega)⟩, ?_, hwas, ?_⟩
  · -- the block of the version that was there is none of the list's
    rcases hs with ⟨hs | hs, hk2⟩
    · have := hSl k hs; omega
    · omega
  · exact (((Fr.of_new hU S).then hf).then (Fr.of_new hV S)).trans (hZ.mono fun k _ e => .inr (by omega))
  · have h3 := hf.keep hvb (fun hk => by have := hSl _ hk; omega)
    exact hZ.keep ((hV.block vb (block_lt h3)).trans h3) hvg
set_option maxRecDepth 100000 in
set_option maxHeartbeats 4000000 in
theorem sk_tput_ (w : World) (S F : Nat → Prop) (mb : Nat) (T : PTb) (dv hv : Value) (hh : Nat) (ns : List Nd) (bk : Option Nat) (h : SkAt w S mb T (sizeE T.L) dv hv hh ns bk) (hi : (hh : Int) = highE T.H) (hd : T.draws.length ≤ 1048576) (hl : T.L.length ≤ 1048575)
    (e : Ent) (he : FitE e) (q : Option Addr) (c : Nat) (hby : By w F (.slice q e.val.length c) e.val) (hSl : ∀ k, S k → k < w.heap.size) :
    Calls Try.prog 10 #[.pointer (some ⟨mb, 0, none⟩), .agg #[.string ⟨e.key.toArray⟩, .int .u64 (e.seq : Int), .bool e.gone, .slice q e.val.length c]] w fun r w' => r = .returned (.tuple #[]) ∧
      (∃ hv' hh' ns' bk', SkAt w' (More S w.heap.size) mb (putT T (normE e)) (sizeE (putT T (normE e)).L) dv hv' hh' ns' bk' ∧ (hh' : Int) = highE (putT T (normE e)).H ∧ PutTo w' ns ns' bk bk' (plcE (normE e) T.L) (normE e) (foundE (normE e) T.L)) ∧ Fr S w w' := by
  obtain ⟨x, hx⟩ : ∃ x, normE e = x := ⟨_, rfl⟩
  have hfx : FitE x := by rw [← hx]; exact normE_fit he
  have hox : oneE x = true := by rw [← hx]; exact normE_one e
  obtain ⟨X, hX⟩ : ∃ X, w.alloc (.cells #[.string ⟨e.key.toArray⟩, .int .u64 (e.seq : Int), .bool e.gone, .slice q e.val.length c] 30) = X := ⟨_, rfl⟩
  have hb : Below w.heap.size w X := by rw [← hX]; exact (Below.refl _ _).alloc (Nat.le_refl _) _
  have hx0 : X.heap[w.heap.size]? = some (.cells #[.string ⟨e.key.toArray⟩, .int .u64 (e.seq : Int), .bool e.gone, .slice q e.val.length c] 30 (0, 0)) := by
    rw [← hX]
    exact heap_alloc_new w _
  have k0 := cell_of (i := 0) hx0 rfl
  have k1 := cell_of (i := 1) hx0 rfl
  have k2 := cell_of (i := 2) hx0 rfl
  have k3 := cell_of (i := 3) hx0 rfl
  have HV := Lib.hid (ver_of X F e he q c (hby.below hb))
  rw [hx] at HV ⊢
  unfold verV at HV
  have hln := h.len
  have hsz := sizeE_fit T.L h.wf.fit
  have HS := Lib.hid h
  have HB := Lib.hid hb
  have HFx := Lib.hid hfx
  have HOx := Lib.hid hox
  have HI := Lib.hid hi
  have HD := Lib.hid hd
  have HSl := Lib.hid hSl
  have HNl : Hid (ns.length ≤ 1048576) := Lib.hid (by omega)
  have HSz : Hid (sizeE T.L ≤ 2305843009213693952) := Lib.hid (by omega)
  obtain ⟨n, hn⟩ : ∃ n : Nat, (n : Int) = tow T := ⟨(tow T).toNat, by have := tow_le T; omega⟩
  have HN := Lib.hid hn
  obtain ⟨fd, hfd⟩ : ∃ fd, foundE x T.L = fd := ⟨_, rfl⟩
  have HFd := Lib.hid hfd
  have HHp := Lib.hid (high_put (x := x) hi hn)
  have HSp := Lib.hid (size_put (T := T) (x := x))
  have HWf : Hid (fd = true → FitE (wasE T x) ∧ oneSz (wasE T x) ≤ sizeE T.L) := Lib.hid (fun hf => was_fit h.wf (by rw [hfd]; exact hf))
  rw [hfd] at HHp HSp ⊢
  obtain ⟨y, hy⟩ : ∃ y, wasE T x = y := ⟨_, rfl⟩
  have HY := Lib.hid hy
  clear hx hfx hox hb hx0 h hi hd hl he hby hSl hln hsz hn hfd hy
  go_enter Try.func10, Try.ntmps10
  go_wp2_with fail
  refine HV.out.mono ?_
  rintro r w1 ⟨rfl, hb1⟩
  obtain ⟨W, hW⟩ : ∃ W, w1.alloc (.cells #[.string ⟨x.key.toArray⟩, .int .u64 (x.seq : Int), .bool x.gone, .string ⟨x.val.toArray⟩] 59) = W := ⟨_, rfl⟩
  have hbW : Below w.heap.size w W := by
    rw [← hW]
    have := HB.out.trans (hb1.mono HB.out.size)
    exact this.alloc this.size _
  have hWv : W.heap[w1.heap.size]? = some (.cells #[.string ⟨x.key.toArray⟩, .int .u64 (x.seq : Int), .bool x.gone, .string ⟨x.val.toArray⟩] 59 (0, 0)) := by
    rw [← hW]
    exact heap_alloc_new w1 _
  have hw1 : w.heap.size ≤ w1.heap.size := Nat.le_trans HB.out.size hb1.size
  obtain ⟨vb, hvb⟩ : ∃ vb, w1.heap.size = vb := ⟨_, rfl⟩
  rw [hvb] at hWv hw1
  have hSW := HS.out.after hbW
  have c8 := hSW.c8
  obtain ⟨Wz, hWz⟩ : ∃ Wz, W.alloc (.cells #[.string ⟨#[]⟩, .int .u64 0, .bool false, .string ⟨#[]⟩] 59) = Wz := ⟨_, rfl⟩
  have hbz : Below W.heap.size W Wz := by rw [← hWz]; exact (Below.refl _ _).alloc (Nat.le_refl _) _
  have hbwz : Below w.heap.size w Wz := hbW.trans (hbz.mono hbW.size)
  have hWzv := (hbz.block vb (block_lt hWv)).trans hWv
  have hWzg : Wz.heap[W.heap.size]? = some (.cells #[.string ⟨#[]⟩, .int .u64 0, .bool false, .string ⟨#[]⟩] 59 (0, 0)) := by rw [← hWz]; exact heap_alloc_new W _
  have cz8 := (HS.out.after hbwz).c8
  have HTw : Hid (∀ U, Below w.heap.size w U → Calls Try.prog 27 #[.pointer (some ⟨mb, 0, none⟩), .int .i64 (ns.length : Int)] U fun r U' => r = .returned (.int .i64 (n : Int)) ∧ Below U.heap.size U U') := Lib.hid (fun U hU => by
    refine (sk_tower U S mb T (sizeE T.L) dv hv hh ns bk (HS.out.after hU) HD.out HNl.out).mono ?_
    rintro r U' ⟨rfl, m, rfl⟩
    exact ⟨by rw [HN.out], below_drewN (Below.refl _ _) m⟩)
  have HT0 := Lib.hid (HTw.out W.drew (below_drew hbW))
  have HT1 := Lib.hid (HTw.out Wz.drew (below_drew hbwz))
  have HPut : Hid (∀ U, Below w.heap.size w U → Calls Try.prog 26 #[.pointer (some ⟨mb, 2, none⟩), .agg #[.string ⟨x.key.toArray⟩, .int .u64 (x.seq : Int), .bool x.gone, .string ⟨x.val.toArray⟩], .int .i64 (n : Int)] U fun r U' => r = .returned (.tuple #[.agg #[.string ⟨y.key.toArray⟩, .int .u64 (y.seq : Int), .bool y.gone, .string ⟨y.val.toArray⟩], .bool fd]) ∧
      (∃ hv' ns' bk', SkAt U' (More S U.heap.size) mb (putT T x) (sizeE T.L) dv hv' (if fd = true then hh else max hh n) ns' bk' ∧ PutTo U' ns ns' bk bk' (plcE x T.L) x fd) ∧ Fr S U U') := Lib.hid (fun U hU => by
    have hp := sk_put U S mb T (sizeE T.L) dv hv hh ns bk (HS.out.after hU) x HFx.out HOx.out n HN.out HNl.out
    rw [HFd.out, HY.out] at hp
    exact hp)
  have HBl : Hid (∀ b, bk = some b → b < w.heap.size) := Lib.hid (fun b hb => HSl.out b (HS.out.blank b hb).1)
  have HVbw : Hid (w.heap.size ≤ vb) := Lib.hid hw1
  have HVbW : Hid (vb < W.heap.size) := Lib.hid (block_lt hWv)
  have HWv := Lib.hid hWv
  have HWzv := Lib.hid hWzv
  have HWzg := Lib.hid hWzg
  have HBW := Lib.hid hbW
  have HBWz := Lib.hid hbwz
  have k0 : W.cell? ⟨vb, 0, none⟩ = some (.string ⟨x.key.toArray⟩) := cell_of hWv rfl
  have k1 : W.cell? ⟨vb, 1, none⟩ = some (.int .u64 (x.seq : Int)) := cell_of hWv rfl
  have k2 : W.cell? ⟨vb, 2, none⟩ = some (.bool x.gone) := cell_of hWv rfl
  have k3 : W.cell? ⟨vb, 3, none⟩ = some (.string ⟨x.val.toArray⟩) := cell_of hWv rfl
  have m0 : Wz.cell? ⟨vb, 0, none⟩ = some (.string ⟨x.key.toArray⟩) := cell_of hWzv rfl
  have m1 : Wz.cell? ⟨vb, 1, none⟩ = some (.int .u64 (x.seq : Int)) := cell_of hWzv rfl
  have m2 : Wz.cell? ⟨vb, 2, none⟩ = some (.bool x.gone) := cell_of hWzv rfl
  have m3 : Wz.cell? ⟨vb, 3, none⟩ = some (.string ⟨x.val.toArray⟩) := cell_of hWzv rfl
  clear k0 k1 k2 k3
  have k0 : W.cell? ⟨vb, 0, none⟩ = some (.string ⟨x.key.toArray⟩) := cell_of hWv rfl
  have k1 : W.cell? ⟨vb, 1, none⟩ = some (.int .u64 (x.seq : Int)) := cell_of hWv rfl
  have k2 : W.cell? ⟨vb, 2, none⟩ = some (.bool x.gone) := cell_of hWv rfl
  have k3 : W.cell? ⟨vb, 3, none⟩ = some (.string ⟨x.val.toArray⟩) := cell_of hWv rfl
  clear hbW hWv hw1 hSW hbz hbwz hWzv hWzg hb1
  go_upto_region 2 with (fail)
  go_cut [5, 6] (fun a5 a6 wx => ∃ g, a5 = .pointer (some ⟨g, 0, none⟩) ∧ a6 = .bool fd ∧ Hid (PutSt w S mb T x y dv hh n ns bk fd vb g wx))
  case first =>
    go_region_law (first
      | (go_simp; go_at_call 27
         refine HT0.out.mono ?_
         rintro r wt ⟨rfl, hbt'⟩
         have hbt : Below W.heap.size W wt := ⟨hbt'.os, hbt'.tape, hbt'.output, hbt'.size, hbt'.block⟩
         have hvt := (hbt.block vb (block_lt HWv.out)).trans HWv.out
         have t0 : wt.cell? ⟨vb, 0, none⟩ = some (.string ⟨x.key.toArray⟩) := cell_of hvt rfl
         have t1 : wt.cell? ⟨vb, 1, none⟩ = some (.int .u64 (x.seq : Int)) := cell_of hvt rfl
         have t2 : wt.cell? ⟨vb, 2, none⟩ = some (.bool x.gone) := cell_of hvt rfl
         have t3 : wt.cell? ⟨vb, 3, none⟩ = some (.string ⟨x.val.toArray⟩) := cell_of hvt rfl
         have hbwt : Below w.heap.size w wt := HBW.out.trans (hbt.mono HBW.out.size)
         have HP0 := Lib.hid (HPut.out wt hbwt)
         obtain ⟨Wt, hWt⟩ : ∃ Wt, wt.alloc (.cells #[.string ⟨#[]⟩, .int .u64 0, .bool false, .string ⟨#[]⟩] 59) = Wt := ⟨_, rfl⟩
         have hbWt : Below wt.heap.size wt Wt := (by rw [← hWt]; exact (Below.refl _ _).alloc (Nat.le_refl _) _)
         have hvWt := (hbWt.block vb (block_lt hvt)).trans hvt
         have hgWt : Wt.heap[wt.heap.size]? = some (.cells #[.string ⟨#[]⟩, .int .u64 0, .bool false, .string ⟨#[]⟩] 59 (0, 0)) := (by rw [← hWt]; exact heap_alloc_new wt _)
         have s0 : Wt.cell? ⟨vb, 0, none⟩ = some (.string ⟨x.key.toArray⟩) := cell_of hvWt rfl
         have s1 : Wt.cell? ⟨vb, 1, none⟩ = some (.int .u64 (x.seq : Int)) := cell_of hvWt rfl
         have s2 : Wt.cell? ⟨vb, 2, none⟩ = some (.bool x.gone) := cell_of hvWt rfl
         have s3 : Wt.cell? ⟨vb, 3, none⟩ = some (.string ⟨x.val.toArray⟩) := cell_of hvWt rfl
         have hbwWt : Below w.heap.size w Wt := hbwt.trans (hbWt.mono hbwt.size)
         have HP1 := Lib.hid (HPut.out Wt hbwWt)
         have HVt := Lib.hid hvt
         have HVWt := Lib.hid hvWt
         have HGWt := Lib.hid hgWt
         have HBwt := Lib.hid hbwt
         have HBwWt := Lib.hid hbwWt
         clear hbt hbt' hvt hbwt hbWt hvWt hgWt hbwWt)
      | (go_simp; go_at_call 27
         refine HT1.out.mono ?_
         rintro r wt ⟨rfl, hbt'⟩
         have hbt : Below Wz.heap.size Wz wt := ⟨hbt'.os, hbt'.tape, hbt'.output, hbt'.size, hbt'.block⟩
         have hvt := (hbt.block vb (block_lt HWzv.out)).trans HWzv.out
         have t0 : wt.cell? ⟨vb, 0, none⟩ = some (.string ⟨x.key.toArray⟩) := cell_of hvt rfl
         have t1 : wt.cell? ⟨vb, 1, none⟩ = some (.int .u64 (x.seq : Int)) := cell_of hvt rfl
         have t2 : wt.cell? ⟨vb, 2, none⟩ = some (.bool x.gone) := cell_of hvt rfl
         have t3 : wt.cell? ⟨vb, 3, none⟩ = some (.string ⟨x.val.toArray⟩) := cell_of hvt rfl
         have hbwt : Below w.heap.size w wt := HBWz.out.trans (hbt.mono HBWz.out.size)
         have hgt := (hbt.block W.heap.size (block_lt HWzg.out)).trans HWzg.out
         have HP2 := Lib.hid (HPut.out wt hbwt)
         have HVt := Lib.hid hvt
         have HGt := Lib.hid hgt
         have HBwt := Lib.hid hbwt
         clear hbt hbt' hvt hbwt hgt)
      | (go_simp; go_at_call 26
         refine HP0.out.mono ?_
         rintro r wp ⟨rfl, hput, hfp⟩
         have hvp := hfp.keep HVt.out (fun hk => by have := HSl.out _ hk; have := HVbw.out; omega)
         have p0 : wp.cell? ⟨vb, 0, none⟩ = some (.string ⟨x.key.toArray⟩) := cell_of hvp rfl
         have p1 : wp.cell? ⟨vb, 1, none⟩ = some (.int .u64 (x.seq : Int)) := cell_of hvp rfl
         have p2 : wp.cell? ⟨vb, 2, none⟩ = some (.bool x.gone) := cell_of hvp rfl
         have p3 : wp.cell? ⟨vb, 3, none⟩ = some (.string ⟨x.val.toArray⟩) := cell_of hvp rfl
         obtain ⟨V, hV⟩ : ∃ V, wp.alloc (.cells #[.string ⟨#[]⟩, .int .u64 0, .bool false, .string ⟨#[]⟩] 59) = V := ⟨_, rfl⟩
         have hbV : Below wp.heap.size wp V := (by rw [← hV]; exact (Below.refl _ _).alloc (Nat.le_refl _) _)
         have hgp : V.heap[wp.heap.size]? = some (.cells #[.string ⟨#[]⟩, .int .u64 0, .bool false, .string ⟨#[]⟩] 59 (0, 0)) := (by rw [← hV]; exact heap_alloc_new wp _)
         have hvV := (hbV.block vb (block_lt hvp)).trans hvp
         have v0 : V.cell? ⟨vb, 0, none⟩ = some (.string ⟨x.key.toArray⟩) := cell_of hvV rfl
         have v1 : V.cell? ⟨vb, 1, none⟩ = some (.int .u64 (x.seq : Int)) := cell_of hvV rfl
         have v2 : V.cell? ⟨vb, 2, none⟩ = some (.bool x.gone) := cell_of hvV rfl
         have v3 : V.cell? ⟨vb, 3, none⟩ = some (.string ⟨x.val.toArray⟩) := cell_of hvV rfl
         have r0 := cell_of (i := 0) hgp rfl
         have r1 := cell_of (i := 1) hgp rfl
         have r2 := cell_of (i := 2) hgp rfl
         have r3 := cell_of (i := 3) hgp rfl
         have zr0 := frozen_of (i := 0) hgp
         have zr1 := frozen_of (i := 1) hgp
         have zr2 := frozen_of (i := 2) hgp
         have zr3 := frozen_of (i := 3) hgp
         obtain ⟨Z, hZ⟩ : ∃ Z, (((V.setCell ⟨wp.heap.size, 0, none⟩ (.string ⟨y.key.toArray⟩)).setCell ⟨wp.heap.size, 1, none⟩ (.int .u64 (y.seq : Int))).setCell ⟨wp.heap.size, 2, none⟩ (.bool y.gone)).setCell ⟨wp.heap.size, 3, none⟩ (.string ⟨y.val.toArray⟩) = Z := ⟨_, rfl⟩
         have hfZ : Fr (fun k => k = wp.heap.size) V Z := (by rw [← hZ]; exact set4_fr V wp.heap.size (.string ⟨y.key.toArray⟩) (.int .u64 (y.seq : Int)) (.bool y.gone) (.string ⟨y.val.toArray⟩) _ rfl)
         have hZg : Z.heap[wp.heap.size]? = some (.cells #[.string ⟨y.key.toArray⟩, .int .u64 (y.seq : Int), .bool y.gone, .string ⟨y.val.toArray⟩] 59 (0, 0)) := (by rw [← hZ]; exact set4_heap hgp _ _ _ _)
         have hvl := block_lt HVt.out
         have hsp := hfp.size
         have HR : Hid (PutSt w S mb T x y dv hh n ns bk fd vb wp.heap.size Z) := Lib.hid (PutSt.of HSl.out HBl.out HBwt.out hput hfp hbV (.inr (Nat.le_refl _)) (by have := HBwt.out.size; omega) hfZ hZg HVt.out (by omega) HVbw.out)
         have hvZ := HR.out.new
         have g0 : Z.cell? ⟨vb, 0, none⟩ = some (.string ⟨x.key.toArray⟩) := cell_of hvZ rfl
         have g1 : Z.cell? ⟨vb, 1, none⟩ = some (.int .u64 (x.seq : Int)) := cell_of hvZ rfl
         have g2 : Z.cell? ⟨vb, 2, none⟩ = some (.bool x.gone) := cell_of hvZ rfl
         have g3 : Z.cell? ⟨vb, 3, none⟩ = some (.string ⟨x.val.toArray⟩) := cell_of hvZ rfl
         clear hput hfp hvp hbV hgp hvV hfZ hZg hvl hsp hvZ)
      | (go_simp; go_at_call 26
         refine HP1.out.mono ?_
         rintro r wp ⟨rfl, hput, hfp⟩
         have hvp := hfp.keep HVWt.out (fun hk => by have := HSl.out _ hk; have := HVbw.out; omega)
         have p0 : wp.cell? ⟨vb, 0, none⟩ = some (.string ⟨x.key.toArray⟩) := cell_of hvp rfl
         have p1 : wp.cell? ⟨vb, 1, none⟩ = some (.int .u64 (x.seq : Int)) := cell_of hvp rfl
         have p2 : wp.cell? ⟨vb, 2, none⟩ = some (.bool x.gone) := cell_of hvp rfl
         have p3 : wp.cell? ⟨vb, 3, none⟩ = some (.string ⟨x.val.toArray⟩) := cell_of hvp rfl
         have hgp := hfp.keep HGWt.out (fun hk => by have := HSl.out _ hk; have := HBwt.out.size; omega)
         have r0 := cell_of (i := 0) hgp rfl
         have r1 := cell_of (i := 1) hgp rfl
         have r2 := cell_of (i := 2) hgp rfl
         have r3 := cell_of (i := 3) hgp rfl
         have zr0 := frozen_of (i := 0) hgp
         have zr1 := frozen_of (i := 1) hgp
         have zr2 := frozen_of (i := 2) hgp
         have zr3 := frozen_of (i := 3) hgp
         obtain ⟨Z, hZ⟩ : ∃ Z, (((wp.setCell ⟨wt.heap.size, 0, none⟩ (.string ⟨y.key.toArray⟩)).setCell ⟨wt.heap.size, 1, none⟩ (.int .u64 (y.seq : Int))).setCell ⟨wt.heap.size, 2, none⟩ (.bool y.gone)).setCell ⟨wt.heap.size, 3, none⟩ (.string ⟨y.val.toArray⟩) = Z := ⟨_, rfl⟩
         have hfZ : Fr (fun k => k = wt.heap.size) wp Z := (by rw [← hZ]; exact set4_fr wp wt.heap.size (.string ⟨y.key.toArray⟩) (.int .u64 (y.seq : Int)) (.bool y.gone) (.string ⟨y.val.toArray⟩) _ rfl)
         have hZg : Z.heap[wt.heap.size]? = some (.cells #[.string ⟨y.key.toArray⟩, .int .u64 (y.seq : Int), .bool y.gone, .string ⟨y.val.toArray⟩] 59 (0, 0)) := (by rw [← hZ]; exact set4_heap hgp _ _ _ _)
         have hgl := block_lt HGWt.out
         have HR : Hid (PutSt w S mb T x y dv hh n ns bk fd vb wt.heap.size Z) := Lib.hid (PutSt.of HSl.out HBl.out HBwWt.out hput hfp (Below.refl _ _) (.inl hgl) (by have := HBwt.out.size; omega) hfZ hZg HVWt.out (by have := block_lt HVt.out; omega) HVbw.out)
         have hvZ := HR.out.new
         have g0 : Z.cell? ⟨vb, 0, none⟩ = some (.string ⟨x.key.toArray⟩) := cell_of hvZ rfl
         have g1 : Z.cell? ⟨vb, 1, none⟩ = some (.int .u64 (x.seq : Int)) := cell_of hvZ rfl
         have g2 : Z.cell? ⟨vb, 2, none⟩ = some (.bool x.gone) := cell_of hvZ rfl
         have g3 : Z.cell? ⟨vb, 3, none⟩ = some (.string ⟨x.val.toArray⟩) := cell_of hvZ rfl
         clear hput hfp hvp hgp hfZ hZg hgl hvZ)
      | (go_simp; go_at_call 26
         refine HP2.out.mono ?_
         rintro r wp ⟨rfl, hput, hfp⟩
         have hvp := hfp.keep HVt.out (fun hk => by have := HSl.out _ hk; have := HVbw.out; omega)
         have p0 : wp.cell? ⟨vb, 0, none⟩ = some (.string ⟨x.key.toArray⟩) := cell_of hvp rfl
         have p1 : wp.cell? ⟨vb, 1, none⟩ = some (.int .u64 (x.seq : Int)) := cell_of hvp rfl
         have p2 : wp.cell? ⟨vb, 2, none⟩ = some (.bool x.gone) := cell_of hvp rfl
         have p3 : wp.cell? ⟨vb, 3, none⟩ = some (.string ⟨x.val.toArray⟩) := cell_of hvp rfl
         have hgp := hfp.keep HGt.out (fun hk => by have := HSl.out _ hk; have := HBwt.out.size; have := HVbw.out; have := HBW.out.size; omega)
         have r0 := cell_of (i := 0) hgp rfl
         have r1 := cell_of (i := 1) hgp rfl
         have r2 := cell_of (i := 2) hgp rfl
         have r3 := cell_of (i := 3) hgp rfl
         have zr0 := frozen_of (i := 0) hgp
         have zr1 := frozen_of (i := 1) hgp
         have zr2 := frozen_of (i := 2) hgp
         have zr3 := frozen_of (i := 3) hgp
         obtain ⟨Z, hZ⟩ : ∃ Z, (((wp.setCell ⟨W.heap.size, 0, none⟩ (.string ⟨y.key.toArray⟩)).setCell ⟨W.heap.size, 1, none⟩ (.int .u64 (y.seq : Int))).setCell ⟨W.heap.size, 2, none⟩ (.bool y.gone)).setCell ⟨W.heap.size, 3, none⟩ (.string ⟨y.val.toArray⟩) = Z := ⟨_, rfl⟩
         have hfZ : Fr (fun k => k = W.heap.size) wp Z := (by rw [← hZ]; exact set4_fr wp W.heap.size (.string ⟨y.key.toArray⟩) (.int .u64 (y.seq : Int)) (.bool y.gone) (.string ⟨y.val.toArray⟩) _ rfl)
         have hZg : Z.heap[W.heap.size]? = some (.cells #[.string ⟨y.key.toArray⟩, .int .u64 (y.seq : Int), .bool y.gone, .string ⟨y.val.toArray⟩] 59 (0, 0)) := (by rw [← hZ]; exact set4_heap hgp _ _ _ _)
         have hgl := block_lt HGt.out
         have HR : Hid (PutSt w S mb T x y dv hh n ns bk fd vb W.heap.size Z) := Lib.hid (PutSt.of HSl.out HBl.out HBwt.out hput hfp (Below.refl _ _) (.inl hgl) (by have := HBwt.out.size; have := HBW.out.size; omega) hfZ hZg HVt.out (by have := HVbW.out; have := HBW.out.size; omega) HVbw.out)
         have hvZ := HR.out.new
         have g0 : Z.cell? ⟨vb, 0, none⟩ = some (.string ⟨x.key.toArray⟩) := cell_of hvZ rfl
         have g1 : Z.cell? ⟨vb, 1, none⟩ = some (.int .u64 (x.seq : Int)) := cell_of hvZ rfl
         have g2 : Z.cell? ⟨vb, 2, none⟩ = some (.bool x.gone) := cell_of hvZ rfl
         have g3 : Z.cell? ⟨vb, 3, none⟩ = some (.string ⟨x.val.toArray⟩) := cell_of hvZ rfl
         clear hput hfp hvp hgp hfZ hZg hgl hvZ))
    all_goals
      go_wp2_with fail
      go_meet
      exact ⟨_, rfl, rfl, HR⟩
  case rest =>
    obtain ⟨g, rfl, rfl, HPs⟩ := hcut
    obtain ⟨wa, rfl⟩ : ∃ wa : World, wa = wc := ⟨_, rfl⟩
    clear k0 k1 k2 k3 m0 m1 m2 m3 c8 cz8 HT0 HT1 HWv HWzv HWzg
    obtain ⟨sz1, hs1⟩ : ∃ sz1, sizeE T.L - (if fd = true then oneSz y else 0) = sz1 := ⟨_, rfl⟩
    have HS1 := Lib.hid hs1
    have HFy : Hid (fd = true → FitE y ∧ oneSz y ≤ sizeE T.L) := Lib.hid (by rw [← HY.out]; exact HWf.out)
    clear hs1
    go_upto_if 24 with (fail)
    go_cut [] (fun wx => Hid ((∃ hv' ns' bk', SkAt wx (More S w.heap.size) mb (putT T x) sz1 dv hv' (if fd = true then hh else max hh n) ns' bk' ∧ PutTo wx ns ns' bk bk' (plcE x T.L) x fd) ∧ Fr S w wx ∧ wx.heap[vb]? = some (.cells #[.string ⟨x.key.toArray⟩, .int .u64 (x.seq : Int), .bool x.gone, .string ⟨x.val.toArray⟩] 59 (0, 0))))
    case first =>
      cases fd with
      | false =>
        have HR := Lib.hid (And.intro HPs.out.sk (And.intro HPs.out.fr HPs.out.new))
        have hz : sizeE T.L = sz1 := HS1.out
        rw [hz] at HR
        clear hz
        go_wp2_with fail
        go_meet
        exact HR
      | true =>
        obtain ⟨hfy, hle⟩ := HFy.out rfl
        obtain ⟨⟨hv', ns', bk', hsk, hpt⟩, hfr, hwas, hnew⟩ := HPs.out
        have c1 := hsk.c1
        have hmb := hsk.blk
        have k0 : wa.cell? ⟨g, 0, none⟩ = some (.string ⟨y.key.toArray⟩) := cell_of hwas rfl
        have k1 : wa.cell? ⟨g, 1, none⟩ = some (.int .u64 (y.seq : Int)) := cell_of hwas rfl
        have k2 : wa.cell? ⟨g, 2, none⟩ = some (.bool y.gone) := cell_of hwas rfl
        have k3 : wa.cell? ⟨g, 3, none⟩ = some (.string ⟨y.val.toArray⟩) := cell_of hwas rfl
        have HSz1 := Lib.hid (ver_size wa.drew y hfy.key hfy.val)
        unfold verV at HSz1
        have hZ : sz1 = sizeE T.L - oneSz y := HS1.out.symm
        have hsub : IntKind.i64.wrap ((sizeE T.L : Int) - (oneSz y : Int)) = (sz1 : Int) := by
          have := HSz.out
          rw [IntWalk.i64_in _ (by omega)]
          omega
        have hone : ((y.key.length + y.val.length + 16 : Nat) : Int) = (oneSz y : Int) := rfl
        rw [hone] at HSz1
        have HMb := Lib.hid hmb
        have HNew := Lib.hid hnew
        have HAll := Lib.hid (And.intro hsk (And.intro hpt hfr))
        have HBb : Hid (∀ b, bk = some b → b < w.heap.size ∧ b ≠ mb) := Lib.hid (fun b hb => ⟨HBl.out b hb, kind_ne (by
          have h1 := (HS.out.blank b hb).2
          unfold ChB at h1
          exact h1) HS.out.blk (by decide)⟩)
        clear hfy hle hsk hpt hfr hwas hnew hmb hZ hone
        go_wp2_with fail
        go_region_law (first
          | (go_simp; go_at_call 28
             refine HSz1.out.mono ?_
             rintro r w3 ⟨rfl, hb3'⟩
             have hb3 : Below wa.heap.size wa w3 := ⟨hb3'.os, hb3'.tape, hb3'.output, hb3'.size, hb3'.block⟩
             have hm3 := (hb3.block mb (block_lt HMb.out)).trans HMb.out
             have e1 : w3.cell? ⟨mb, 1, none⟩ = some (.int .i64 (sizeE T.L : Int)) := cell_of hm3 rfl
             have y1 := frozen_of (i := 1) hm3
             have HB3 := Lib.hid hb3
             have HM3 := Lib.hid hm3
             clear hb3 hb3' hm3))
        all_goals
          go_wp2_with fail
          go_meet
          have hf : Fr (fun k => k = mb) w3 (w3.setCell ⟨mb, 1, none⟩ (.int .i64 (sz1 : Int))) := Fr.setCell (fun k => k = mb) w3 (p := ⟨mb, 1, none⟩) rfl _
          obtain ⟨a1, a2, a3⟩ := HAll.out
          refine Lib.hid ⟨⟨hv', ns', bk', (a1.after HB3.out).sized sz1, (a2.step (Fr.of_new HB3.out (fun _ => False)) (fun _ _ hf => hf)).step hf (fun b hb => (HBb.out b hb).2)⟩, (a3.then (Fr.of_new HB3.out S)).then (hf.mono fun k _ e => by rw [e]; exact HS.out.inS), ?_⟩
          have h1 := (HB3.out.block vb (block_lt HNew.out)).trans HNew.out
          exact hf.keep h1 (kind_ne h1 HM3.out (by decide))
    case rest =>
      obtain ⟨wb, rfl⟩ : ∃ wb : World, wb = wc := ⟨_, rfl⟩
      obtain ⟨⟨hv', ns', bk', hsk, hpt⟩, hfr, hnew⟩ := hcut.out
      have c1 := hsk.c1
      have hmb := hsk.blk
      have k0 : wb.cell? ⟨vb, 0, none⟩ = some (.string ⟨x.key.toArray⟩) := cell_of hnew rfl
      have k1 : wb.cell? ⟨vb, 1, none⟩ = some (.int .u64 (x.seq : Int)) := cell_of hnew rfl
      have k2 : wb.cell? ⟨vb, 2, none⟩ = some (.bool x.gone) := cell_of hnew rfl
      have k3 : wb.cell? ⟨vb, 3, none⟩ = some (.string ⟨x.val.toArray⟩) := cell_of hnew rfl
      have HSz2 := Lib.hid (ver_size wb.drew x HFx.out.key HFx.out.val)
      unfold verV at HSz2
      have hone : ((x.key.length + x.val.length + 16 : Nat) : Int) = (oneSz x : Int) := rfl
      rw [hone] at HSz2
      have hfin : sz1 + oneSz x = sizeE (putT T x).L := by
        have h1 := HS1.out
        have h2 := HSp.out
        rw [HY.out] at h2
        have h3 := HFy.out
        cases fd
        · simp only [Bool.false_eq_true, if_false] at h1 h2
          omega
        · simp only [if_true] at h1 h2
          have := (h3 rfl).2
          omega
      obtain ⟨sz2, hsz2⟩ : ∃ sz2, sizeE (putT T x).L = sz2 := ⟨_, rfl⟩
      have hadd : IntKind.i64.wrap ((sz1 : Int) + (oneSz x : Int)) = (sz2 : Int) := by
        have h1 := HSz.out
        have h2 := HS1.out
        have h3 := HFx.out.key
        have h4 := HFx.out.val
        have h5 : oneSz x = x.key.length + x.val.length + 16 := rfl
        rw [IntWalk.i64_in _ (by omega)]
        omega
      have HSe := Lib.hid hsz2
      have HMb := Lib.hid hmb
      have HAll := Lib.hid (And.intro hsk (And.intro hpt hfr))
      have HBb : Hid (∀ b, bk = some b → b < w.heap.size ∧ b ≠ mb) := Lib.hid (fun b hb => ⟨HBl.out b hb, kind_ne (by
        have h1 := (HS.out.blank b hb).2
        unfold ChB at h1
        exact h1) HS.out.blk (by decide)⟩)
      clear hsk hpt hfr hnew hmb hone hfin hsz2 hcut
      go_wp2_with fail
      go_region_law (first
        | (go_simp; go_at_call 28
           refine HSz2.out.mono ?_
           rintro r w3 ⟨rfl, hb3'⟩
           have hb3 : Below wb.heap.size wb w3 := ⟨hb3'.os, hb3'.tape, hb3'.output, hb3'.size, hb3'.block⟩
           have hm3 := (hb3.block mb (block_lt HMb.out)).trans HMb.out
           have e1 : w3.cell? ⟨mb, 1, none⟩ = some (.int .i64 (sz1 : Int)) := cell_of hm3 rfl
           have y1 := frozen_of (i := 1) hm3
           have HB3 := Lib.hid hb3
           have HM3 := Lib.hid hm3
           clear hb3 hb3' hm3))
      all_goals
        go_wp2_with fail
        go_end0
        have hf : Fr (fun k => k = mb) w3 (w3.setCell ⟨mb, 1, none⟩ (.int .i64 (sz2 : Int))) := Fr.setCell (fun k => k = mb) w3 (p := ⟨mb, 1, none⟩) rfl _
        obtain ⟨a1, a2, a3⟩ := HAll.out
        rw [HSe.out]
        exact ⟨rfl, ⟨hv', _, ns', bk', (a1.after HB3.out).sized sz2, HHp.out, (a2.step (Fr.of_new HB3.out (fun _ => False)) (fun _ _ hf => hf)).step hf (fun b hb => (HBb.out b hb).2)⟩, (a3.then (Fr.of_new HB3.out S)).then (hf.mono fun k _ e => by rw [e]; exact HS.out.inS)⟩

theorem sk_tput (w : World) (S F : Nat → Prop) (mb : Nat) (T : PTb) (dv hv : Value) (hh : Nat) (ns : List Nd) (bk : Option Nat) (h : SkAt w S mb T (sizeE T.L) dv hv hh ns bk) (hi : (hh : Int) = highE T.H) (hd : T.draws.length ≤ 1048576) (hl : T.L.length ≤ 1048575)
    (e : Ent) (he : FitE e) (q : Option Addr) (c : Nat) (hby : By w F (.slice q e.val.length c) e.val) :
    Calls Try.prog 10 #[.pointer (some ⟨mb, 0, none⟩), .agg #[.string ⟨e.key.toArray⟩, .int .u64 (e.seq : Int), .bool e.gone, .slice q e.val.length c]] w fun r w' => r = .returned (.tuple #[]) ∧
      (∃ hv' hh' ns' bk', SkAt w' (More S w.heap.size) mb (putT T (normE e)) (sizeE (putT T (normE e)).L) dv hv' hh' ns' bk' ∧ (hh' : Int) = highE (putT T (normE e)).H ∧ PutTo w' ns ns' bk bk' (plcE (normE e) T.L) (normE e) (foundE (normE e) T.L)) ∧ Fr S w w' := by
  refine (sk_tput_ w (fun k => S k ∧ k < w.heap.size) F mb T dv hv hh ns bk (h.mono fun k hk hs => ⟨hs, hk⟩) hi hd hl e he q c hby (fun k hk => hk.2)).mono ?_
  rintro r w' ⟨h1, ⟨hv', hh', ns', bk', h2, h3, h4⟩, h5⟩
  exact ⟨h1, ⟨hv', hh', ns', bk', h2.mono fun k _ hk => hk.elim (fun h => .inl h.1) (fun h => .inr h), h3, h4⟩, h5.mono fun k _ hk => hk.1⟩
end Go.Proofs.Ytaomneenflkpeaa
