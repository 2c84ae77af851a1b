/-
  The sequence of entries over a sequence of versions (entries' closure).
-/
import Derived.Test.YtaomneenflkpeaaSkC
import Derived.Test.YtaomneenflkpeaaSkS
namespace Go.Proofs.Ytaomneenflkpeaa
open Go.RowKit Go.Shelf
attribute [local go_sem] Oper.semAt_some

theorem SeqQ.later {α : Type} {F : Fence} {n : Nat} {P : Program} {g : Nat} {lb : Array Value} {encs : α → Array Value} {Kp : World → World → Prop} {Qx : α → World → Prop} {S Sp : List α → Prop} {N : Nat} {w w' : World}
    (h : SeqQ F n P g lb encs Kp Qx S Sp N w) (hb : Below w.heap.size w w') : SeqQ F n P g lb encs Kp Qx S Sp N w' :=
  fun l J Jx W hW => h l J Jx W (hb.trans (hW.mono hb.size))
theorem keeps_below {B : Nat} {A C : World} (h : Below A.heap.size A C) : KeepsFrom B A C := ⟨h.size, fun k _ _ hk _ => (h.block k (Array.getElem?_eq_some_iff.1 hk).1).trans hk⟩

def VerB (W : World) (g : Nat) (x : Ent) : Prop := W.heap[g]? = some (.cells #[.string ⟨x.key.toArray⟩, .int .u64 (x.seq : Int), .bool x.gone, .string ⟨x.val.toArray⟩] 59 (0, 0))
/-- What is told to the outer loop so far, and the box of its yield. -/
def EnI (l yb : Nat) (J : List TEnt → World → Prop) (pre' : List Ent) (V : World) : Prop :=
  ∃ pre, pre.map Prod.fst = pre' ∧ J pre V ∧ V.heap[yb]? = some (.cells #[.func (.yield l) #[] #[]] 83 (0, 0))
def EnX (Jx : List TEnt → World → Prop) (c : Code) (pre' : List Ent) (V : World) : Prop := c = .ret ∧ ∃ pre, pre.map Prod.fst = pre' ∧ Jx pre V

set_option maxRecDepth 100000 in
set_option maxHeartbeats 4000000 in
theorem entries1_seq (Y : World) (B0 G : Nat → Prop) (ib igf : Nat) (ilb : Array Value) (es : List Ent) (hib : Y.heap[ib]? = some (.cells #[.func (.func igf) #[] ilb] 98 (0, 0)))
    (hlow : ∀ k, B0 k → k < Y.heap.size) (hG : ∀ k, Y.heap.size ≤ k → G k)
    (hin : SeqQ Fence.wide 2 Try.prog igf ilb (fun e : Ent => #[verV e]) (KpE B0 Y.heap.size) (fun e _ => FitE e) (fun xs => xs = es) (fun pre => pre <+: es) es.length Y)
    (heg : ∀ args w, (callFunc igf args).run Try.prog w = .ok (.enter igf args) w) :
    SeqE 61 #[.pointer (some ⟨ib, 0, none⟩)] es G B0 Y := by
  intro l J Jx W hW hJ hJx hY h0
  obtain ⟨X, hX⟩ : ∃ X, W.alloc (.cells #[.func (.yield l) #[] #[]] 83) = X := ⟨_, rfl⟩
  have hbX : Below W.heap.size W X := by rw [← hX]; exact (Below.refl _ _).alloc (Nat.le_refl _) _
  have hXs : X.heap.size = W.heap.size + 1 := by rw [← hX]; simp
  have hXb : X.heap[W.heap.size]? = some (.cells #[.func (.yield l) #[] #[]] 83 (0, 0)) := by rw [← hX]; exact heap_alloc_new W _
  have hYX : Below Y.heap.size Y X := hW.trans (hbX.mono hW.size)
  have w1 : X.cell? ⟨ib, 0, none⟩ = some (.func (.func igf) #[] ilb) := cell_of ((hYX.block _ (block_lt hib)).trans hib) rfl
  have hWX : W.heap.size ≤ X.heap.size := hbX.size
  have HS : Hid (Y.heap.size ≤ W.heap.size ∧ ¬ B0 W.heap.size) := Lib.hid ⟨hW.size, fun h => by have := hlow _ h; have := hW.size; omega⟩
  have HI0 : Hid (EnI l W.heap.size J [] X) := Lib.hid ⟨[], rfl, hJ _ _ _ h0 (Calm.of_below hbX), hXb⟩
  have HIn := Lib.hid (hin.later hYX)
  have HJ : Hid (Abd X.heap.size J) := Lib.hid (fun s A C h hc => hJ s A C h (hc.le hWX))
  have HJx : Hid (Abd X.heap.size Jx) := Lib.hid (fun s A C h hc => hJx s A C h (hc.le hWX))
  have HY := Lib.hid hY
  have HG := Lib.hid hG
  have HWX := Lib.hid hWX
  have HEg := Lib.hid heg
  clear hbX hXs hXb hYX hib hlow hin hW hJ hJx hY h0 hG hWX heg
  refine callsIn_of_wp_marks Try.func61 rfl trivial ?_ rfl
  simp only [Try.ntmps61, List.size_toArray, List.length_cons, List.length_nil, Nat.reduceAdd, Nat.reduceSub, Array.replicate_succ, Array.replicate_zero, List.push_toArray, List.append_toArray, List.nil_append, List.cons_append]
  gi_wp2
  refine range_q (α := Ent) (encs := fun e => #[verV e]) (Kp := KpE B0 Y.heap.size) (Qx := fun e _ => FitE e) rfl (by omega) (gf := igf) (lb := ilb) rfl trivial HEg.out HIn.out (fun _ => rfl)
    (fun h k => h.trans k) (fun h => .of_calm (h.le (Nat.le_trans HS.out.1 HWX.out)))
    (EnI l W.heap.size J) (EnX Jx) (fun s A C ⟨pre, h1, h2, h3⟩ hc => ⟨pre, h1, HJ.out _ _ _ h2 hc, hc.same _ _ h3 (.inr rfl)⟩) (fun c s A C ⟨h1, pre, h2, h3⟩ hc => ⟨h1, pre, h2, HJx.out _ _ _ h3 hc⟩)
    HI0.out
    (fun x a' V => ∃ Bx, VerB V Bx x ∧ FitE x ∧ a' = { tmps := #[.func (.yield l) #[] #[], .pointer (some ⟨ib, 0, none⟩), .pointer (some ⟨W.heap.size, 0, none⟩), .pointer (some ⟨Bx, 0, none⟩), .func (.func igf) #[] ilb, verV x, undef, undef, undef, undef, undef], defers := [] })
    (fun x a' _ A C h hc => by
      obtain ⟨Bx, h2, h3, h4⟩ := h
      exact ⟨Bx, hc.same _ _ h2 (.inr rfl), h3, h4⟩) ?assign ?body ?done ?stop
  case assign =>
    intro l2 pre x V K hi hq hK
    have HK := Lib.hid hK
    have Hi := Lib.hid hi
    have Hq := Lib.hid hq
    clear hi hq hK
    unfold verV
    gi_wp2
    have hbb : Below V.heap.size V (V.alloc (.cells #[.string ⟨x.key.toArray⟩, .int .u64 (x.seq : Int), .bool x.gone, .string ⟨x.val.toArray⟩] 59)) := (Below.refl _ V).alloc (Nat.le_refl _) _
    have hcm : Calm X.heap.size V _ := .of_below hbb
    obtain ⟨pre2, h1, h2, h3⟩ := Hi.out
    exact HK.out _ _ (keeps_below hbb) (.of_below hbb) ⟨pre2, h1, HJ.out _ _ _ h2 hcm, hcm.same _ _ h3 (.inr rfl)⟩ ⟨V.heap.size, heap_alloc_new V _, Hq.out, rfl⟩
  case body =>
    rintro l2 pre' x a' V ⟨pre, hpre, hj, hyb⟩ ⟨Bx, hvb, hfx, rfl⟩ hlt
    have y1 : V.cell? ⟨W.heap.size, 0, none⟩ = some (.func (.yield l) #[] #[]) := cell_of hyb rfl
    have v0 := cell_of (i := 0) hvb rfl
    have v1 := cell_of (i := 1) hvb rfl
    have v2 := cell_of (i := 2) hvb rfl
    have v3 := cell_of (i := 3) hvb rfl
    have hmix : Try.prog.follows .mixedOrders = true := by kernel_rfl
    have HEn := Lib.hid (ver_entry V.drew x hfx.val)
    have HYy : Hid (∀ q c w2, Below V.heap.size V w2 → OwnS (fun k => V.heap.size ≤ k) w2 (.slice q x.val.length c) x.val → YieldAt Fence.wide (3 - 1) Try.prog l #[entA x q c] w2 fun e Y2 => ∃ bb, e = .returned (.bool bb) ∧
        (bb = true → KeepsFrom X.heap.size V Y2 ∧ KpE B0 Y.heap.size V Y2 ∧ EnI l W.heap.size J (pre' ++ [x]) Y2) ∧ (bb = false → KeepsFrom X.heap.size V Y2 ∧ EnX Jx .ret (pre' ++ [x]) Y2)) := Lib.hid (fun q c w2 hb2 ho => by
      have hq2 : QT G (x, (q, c)) w2 := ho.keep (fun _ _ => rfl) (fun k _ hk => HG.out k (by have := block_lt hyb; have := HS.out.1; omega))
      refine (HY.out pre (x, (q, c)) w2 (HJ.out _ _ _ hj (Calm.of_below hb2)) hq2 (by rw [← List.length_map (f := Prod.fst), hpre]; exact hlt)).mono ?_
      rintro e Y2 (⟨rfl, hj2, hk, hk2⟩ | ⟨rfl, hj2, hk2⟩)
      · exact ⟨true, rfl, fun _ => ⟨(keeps_below hb2).trans (keeps_le hk2 HWX.out), (KpE.of_below hb2).trans hk, _, by rw [List.map_append, hpre]; rfl, hj2, ((KpE.of_below hb2).trans hk).same _ _ _ _ hyb HS.out.2 (by decide)⟩, fun h => by cases h⟩
      · exact ⟨false, rfl, (fun h => by cases h), fun _ => ⟨(keeps_below hb2).trans (keeps_le hk2 HWX.out), rfl, _, by rw [List.map_append, hpre]; rfl, hj2⟩⟩)
    have HBb := Lib.hid (below_drew (Below.refl V.heap.size V))
    clear hpre hj hyb hvb hfx hlt
    unfold verV
    unfold verV at HEn
    gi_wp2
    gi_region_with_o (first
      | (refine ⟨trivial, ?_⟩
         gi_at_call 32
         refine (CallsIn.inRound l2 (callsIn_wide.2 HEn.out)).mono ?_
         rintro r w2 ⟨q, c, rfl, ho, hb2⟩
         have y2 := (hb2.cell (p := ⟨W.heap.size, 0, none⟩) (cell_lt y1)).trans y1
         obtain ⟨fn, tmps, assign, body, hy, hR⟩ := HYy.out q c w2 (HBb.out.trans hb2) ho)
      | (gi_at_call 32
         refine (CallsIn.inRound l2 (callsIn_wide.2 HEn.out)).mono ?_
         rintro r w2 ⟨q, c, rfl, ho, hb2⟩
         have y2 := (hb2.cell (p := ⟨W.heap.size, 0, none⟩) (cell_lt y1)).trans y1
         obtain ⟨fn, tmps, assign, body, hy, hR⟩ := HYy.out q c w2 (HBb.out.trans hb2) ho)
      | (refine (RoundIn.any hR).mono ?_
         rintro e V2 ⟨bb, rfl, hbt, hbf⟩))
    all_goals
      cases bb
      · have HE := Lib.hid (hbf rfl)
        clear hbt hbf hy hR
        gi_wp2
        exact HE.out
      · have HE := Lib.hid (hbt rfl)
        clear hbt hbf hy hR
        gi_wp2
        exact HE.out
  case done =>
    rintro D ys V hD hes ⟨pre, hpre, hj, hyb⟩ hK
    have HE : Hid (pre.map Prod.fst = es ∧ J pre (V.putObj D (.deferred none))) := Lib.hid ⟨hpre.trans hes, HJ.out _ _ _ hj (Calm.put _ hD hK rfl)⟩
    have HK := Lib.hid hK
    clear hK hj hyb
    gi_wp2
    refine ⟨by simp, .inl ⟨_, _, rfl, run_takeDeferred HK.out, ?_⟩⟩
    exact ⟨_, results_none rfl _ _ _, ⟨_, rfl⟩, .inl ⟨_, HE.out⟩⟩
  case stop =>
    rintro D c pre' V hD hS ⟨rfl, pre, hpre, hj⟩ hK
    have HE : Hid (pre.map Prod.fst <+: es ∧ Jx pre (V.putObj D (.deferred none))) := Lib.hid ⟨hpre ▸ hS, HJx.out _ _ _ hj (Calm.put _ hD hK rfl)⟩
    have HK := Lib.hid hK
    clear hK hj
    gi_wp2
    refine ⟨by simp, .inl ⟨_, _, rfl, run_takeDeferred HK.out, ?_⟩⟩
    exact ⟨_, results_none rfl _ _ _, ⟨_, rfl⟩, .inr ⟨_, HE.out⟩⟩
end Go.Proofs.Ytaomneenflkpeaa
