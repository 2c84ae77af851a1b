/-
  The walk over the sequence of a list's versions (from's closure), where no change is left.
-/
import Derived.Test.YtaomneenflkpeaaSkR
import Derived.Deep.LoopGhost
import Derived.Shelf.RegionOpen
import Derived.Stop.RegionWithIn
namespace Go.Proofs.Ytaomneenflkpeaa
open Go.RowKit Go.Shelf
attribute [local go_sem] Oper.semAt_some

theorem room_wide' (k : Nat) : Fence.wide.room k := fun d h => by cases h
theorem RoundIn.any {m m' : Nat} {P : Program} {l : Nat} {f : FuncId} {tmps : Array Value} {assign body : Code} {w : World} {R : Ending → World → Prop} (h : RoundIn Fence.wide m P l f tmps assign body w R) : RoundIn Fence.wide m' P l f tmps assign body w R :=
  ⟨h.1, fun c cs _ => h.2 c cs (room_wide' _)⟩

/-- The nodes that a sequence goes over, each leading to the next at its lowest level; none of their blocks is a loop's own. -/
structure RsAt (W : World) (B0 : Nat → Prop) (rs : List Nd) : Prop where
  nb : ∀ (i : Nat) (nd : Nd), rs[i]? = some nd → NdB W nd ∧ ¬ B0 nd.blk
  tb : ∀ (i : Nat) (nd : Nd), rs[i]? = some nd → ¬ B0 nd.tow ∧ 1 ≤ nd.h ∧ nd.h ≤ 12 ∧ ∃ cs, W.heap[nd.tow]? = some (.cells cs 73 (0, 0)) ∧ cs[0]? = some (pv ((rs[i + 1]?).map Nd.blk))
theorem RsAt.keep {A C : World} {B0 : Nat → Prop} {b : Nat} {rs : List Nd} (h : RsAt A B0 rs) (hk : KpE B0 b A C) : RsAt C B0 rs :=
  ⟨fun i nd hi => by
    obtain ⟨h1, h2⟩ := h.nb i nd hi
    exact ⟨hk.same _ _ _ _ h1 h2 (by decide), h2⟩, fun i nd hi => by
    obtain ⟨h1, h2, h3, cs, h4, h5⟩ := h.tb i nd hi
    exact ⟨h1, h2, h3, cs, hk.same _ _ _ _ h4 h1 (by decide), h5⟩⟩
theorem RsAt.after {A C : World} {B0 : Nat → Prop} {rs : List Nd} (h : RsAt A B0 rs) (hb : Below A.heap.size A C) : RsAt C B0 rs := h.keep (b := 0) (.of_below hb)
/-- What is told of the first i nodes. -/
def toldI (c : Nat) (rs : List Nd) (i : Nat) : List Ent := ((rs.take i).filter fun nd => decide (nd.num < c)).map Nd.ent
def told (c : Nat) (rs : List Nd) : List Ent := (rs.filter fun nd => decide (nd.num < c)).map Nd.ent
theorem toldI_all (c : Nat) (rs : List Nd) : toldI c rs rs.length = told c rs := by unfold toldI told; rw [List.take_length]
theorem toldI_succ {c : Nat} {rs : List Nd} {i : Nat} {nd : Nd} (h : rs[i]? = some nd) : toldI c rs (i + 1) = if nd.num < c then toldI c rs i ++ [nd.ent] else toldI c rs i := by
  unfold toldI
  rw [take_snoc _ _ _ h, List.filter_append, List.map_append]
  by_cases hc : nd.num < c
  · rw [if_pos hc]
    simp [hc]
  · rw [if_neg hc]
    simp [hc]
theorem toldI_pre (c : Nat) (rs : List Nd) (i : Nat) : toldI c rs i <+: told c rs := by
  unfold toldI told
  refine ⟨((rs.drop i).filter fun nd => decide (nd.num < c)).map Nd.ent, ?_⟩
  rw [← List.map_append, ← List.filter_append, List.take_append_drop]
theorem pre_len {α : Type} {a b : List α} (h : a <+: b) : a.length ≤ b.length := h.length_le

/-- The cells of a sequence that is made: where it begins, how many nodes there were, the change that waited then. -/
structure SqC (W : World) (B0 : Nat → Prop) (sb fb cb : Nat) (bk : Option Nat) (c : Nat) (rs : List Nd) : Prop where
  since : W.heap[sb]? = some (.cells #[pv bk] 63 (0, 0))
  first : W.heap[fb]? = some (.cells #[pv ((rs[0]?).map Nd.blk)] 73 (0, 0))
  cnt : W.heap[cb]? = some (.cells #[.int .i64 (c : Int)] 3 (0, 0))
  far : ¬ B0 sb ∧ ¬ B0 fb ∧ ¬ B0 cb
  low : ∀ k, B0 k → k < W.heap.size
  ch : ∀ b, bk = some b → ChB W b ∧ ¬ B0 b
  some : rs ≠ [] → bk ≠ none

/-- Where the sequence stands when g nodes are to come. -/
def SRel (rs : List Nd) (c : Nat) (B0 : Nat → Prop) (bk : Option Nat) (cb mm pb : Nat) (J : List Ent → World → Prop) (g : Nat) (p : Value) (wr : World) : Prop :=
  ∃ i, i + g = rs.length ∧ p = pv ((rs[i]?).map Nd.blk) ∧ J (toldI c rs i) wr ∧ RsAt wr B0 rs ∧ (∀ b, bk = some b → ChB wr b ∧ ¬ B0 b) ∧ wr.heap[cb]? = some (.cells #[.int .i64 (c : Int)] 3 (0, 0)) ∧ MapM wr mm none ∧ wr.heap[pb]? = some (.cells #[.map (some mm), pv bk] 117 (0, 0))
theorem SRel.after {rs : List Nd} {c : Nat} {B0 : Nat → Prop} {bk : Option Nat} {cb mm pb B : Nat} {J : List Ent → World → Prop} {g : Nat} {p : Value} {A C : World} (hJ : Abd B J) (h : SRel rs c B0 bk cb mm pb J g p A) (hb : Below A.heap.size A C) : SRel rs c B0 bk cb mm pb J g p C := by
  obtain ⟨i, h1, h2, h3, h4, h5, h6, h7, h8⟩ := h
  exact ⟨i, h1, h2, hJ _ _ _ h3 (Calm.of_below hb), h4.after hb, fun b hk => ⟨(hb.block _ (block_lt (h5 b hk).1)).trans (h5 b hk).1, (h5 b hk).2⟩, (hb.block _ (block_lt h6)).trans h6, (hb.block _ (Array.getElem?_eq_some_iff.1 h7).1).trans h7, (hb.block _ (block_lt h8)).trans h8⟩

set_option maxRecDepth 100000 in
set_option maxHeartbeats 4000000 in
theorem from1_still (Y : World) (B0 : Nat → Prop) (b0 sb fb cb c : Nat) (bk : Option Nat) (rs : List Nd) (hsq : SqC Y B0 sb fb cb bk c rs) (hrs : RsAt Y B0 rs) (hfit : ∀ nd ∈ rs, FitE nd.ent) :
    SeqQ Fence.wide 2 Try.prog 62 #[.pointer (some ⟨sb, 0, none⟩), .pointer (some ⟨fb, 0, none⟩), .pointer (some ⟨cb, 0, none⟩)] (fun e : Ent => #[verV e]) (KpE B0 b0) (fun e _ => FitE e) (fun xs => xs = told c rs) (fun pre => pre <+: told c rs) (told c rs).length Y := by
  intro l J Jx W hW hJ hJx hY h0
  have hlt := fun {k : Nat} {o : Obj} (h : Y.heap[k]? = some o) => (Array.getElem?_eq_some_iff.1 h).1
  obtain ⟨q, hq⟩ : ∃ q, pv bk = .pointer q := ⟨_, rfl⟩
  obtain ⟨p0, hp0⟩ : ∃ p0, pv ((rs[0]?).map Nd.blk) = .pointer p0 := ⟨_, rfl⟩
  obtain ⟨Z1, hZ1⟩ : ∃ Z1, W.alloc (.map #[] 0) = Z1 := ⟨_, rfl⟩
  obtain ⟨Z, hZ⟩ : ∃ Z, Z1.alloc (.cells #[.map (some W.heap.size), .pointer q] 117) = Z := ⟨_, rfl⟩
  have hb1 : Below W.heap.size W Z1 := by rw [← hZ1]; exact (Below.refl _ _).alloc (Nat.le_refl _) _
  have hb2 : Below W.heap.size W Z := by rw [← hZ]; exact hb1.alloc hb1.size _
  have hs1 : Z1.heap.size = W.heap.size + 1 := by rw [← hZ1]; simp
  have hYW := hW.size
  have hY1 : Below Y.heap.size Y Z1 := hW.trans (hb1.mono hYW)
  have hY2 : Below Y.heap.size Y Z := hW.trans (hb2.mono hYW)
  have w0 : Z1.cell? ⟨sb, 0, none⟩ = some (.pointer q) := cell_of ((hY1.block _ (hlt hsq.since)).trans hsq.since) (by rw [hq]; rfl)
  have w1 : Z.cell? ⟨fb, 0, none⟩ = some (.pointer p0) := cell_of ((hY2.block _ (hlt hsq.first)).trans hsq.first) (by rw [hp0]; rfl)
  have hmZ : MapM Z W.heap.size none := by
    unfold MapM
    rw [← hZ, alloc_old (by omega), ← hZ1]
    exact World.alloc_heap_new W _
  have hpZ : Z.heap[Z1.heap.size]? = some (.cells #[.map (some W.heap.size), pv bk] 117 (0, 0)) := by rw [hq, ← hZ]; exact heap_alloc_new Z1 _
  obtain ⟨pb, hpb⟩ : ∃ pb, Z1.heap.size = pb := ⟨_, rfl⟩
  have HPb : Hid (W.heap.size ≤ pb ∧ ¬ B0 pb ∧ Y.heap.size ≤ W.heap.size) := Lib.hid ⟨by omega, fun h => by have := hsq.low _ h; omega, hYW⟩
  rw [hpb] at hpZ
  have HJ0 := Lib.hid (hJ _ _ _ h0 (Calm.of_below hb2))
  have HSt : Hid (RsAt Z B0 rs ∧ (∀ b, bk = some b → ChB Z b ∧ ¬ B0 b) ∧ Z.heap[cb]? = some (.cells #[.int .i64 (c : Int)] 3 (0, 0))) := Lib.hid ⟨hrs.keep (.of_below hY2 : KpE B0 Y.heap.size Y Z), fun b hk => ⟨(hY2.block _ (hlt (hsq.ch b hk).1)).trans (hsq.ch b hk).1, (hsq.ch b hk).2⟩, (hY2.block _ (hlt hsq.cnt)).trans hsq.cnt⟩
  have HM := Lib.hid hmZ
  have HP := Lib.hid hpZ
  have HFar := Lib.hid (And.intro hsq.far hsq.some)
  have HJ := Lib.hid hJ
  have HJx := Lib.hid hJx
  have HY := Lib.hid hY
  have HP0 := Lib.hid hp0
  have HFit := Lib.hid hfit
  have hmm := @run_makeMap Try.prog
  clear hb1 hb2 hs1 hYW hY1 hY2 hmZ hpZ hsq hrs hfit hW hJ hJx hY h0 hlt hq hp0
  refine callsIn_of_wp Try.func62 rfl trivial ?_ rfl
  simp only [Try.ntmps62, List.size_toArray, List.length_cons, List.length_nil, Nat.reduceAdd, Nat.reduceSub, Array.replicate_succ, Array.replicate_zero, List.push_toArray, List.append_toArray, List.nil_append, List.cons_append]
  gi_wp2
  gi_loopw [6] (fun p wr => ∃ g, SRel rs c B0 bk cb W.heap.size pb J g p wr) (fun p wr => leastOf fun g => SRel rs c B0 bk cb W.heap.size pb J g p wr)
  case atStart => exact ⟨rs.length, 0, by omega, HP0.out.symm, HJ0.out, HSt.out.1, HSt.out.2.1, HSt.out.2.2, HM.out, HP.out⟩
  case round =>
    obtain ⟨hg, hmin⟩ := leastOf_spec hrel
    obtain ⟨g, hgd⟩ : ∃ g, (leastOf fun g => SRel rs c B0 bk cb W.heap.size pb J g u6 wr) = g := ⟨_, rfl⟩
    rw [hgd] at hg
    have HG := Lib.hid hgd
    clear hgd hmin hrel
    have HG2 : Hid (∀ g' p' w', SRel rs c B0 bk cb W.heap.size pb J g' p' w' → g' < g → (leastOf fun g => SRel rs c B0 bk cb W.heap.size pb J g p' w') < leastOf fun g => SRel rs c B0 bk cb W.heap.size pb J g u6 wr) := Lib.hid (fun g' p' w' h1 h2 => by
      have := (leastOf_spec (p := fun g => SRel rs c B0 bk cb W.heap.size pb J g p' w') ⟨g', h1⟩).2 g' h1
      have := HG.out
      omega)
    clear HG
    obtain ⟨i, hi, rfl, hj, hrs, hch, hcb, hm, hp⟩ := hg
    cases hnd : rs[i]? with
    | none =>
      have hil : i = rs.length := by
        have := List.getElem?_eq_none_iff.1 hnd
        omega
      subst hil
      unfold pv
      simp only [Option.map_none]
      have HJe := Lib.hid hj
      clear hj hrs hch hcb hm hp hnd
      gi_wp2
      go_end0
      exact ⟨⟨_, rfl⟩, .inl ⟨_, toldI_all c rs, HJe.out⟩⟩
    | some nd =>
      have HG3 : Hid (∀ V, SRel rs c B0 bk cb W.heap.size pb J (g - 1) (pv ((rs[i + 1]?).map Nd.blk)) V → (leastOf fun g => SRel rs c B0 bk cb W.heap.size pb J g (pv ((rs[i + 1]?).map Nd.blk)) V) < leastOf fun g => SRel rs c B0 bk cb W.heap.size pb J g (.pointer (some ⟨nd.blk, 0, none⟩)) wr) := Lib.hid (by
        have hil : i < rs.length := (List.getElem?_eq_some_iff.1 hnd).1
        intro V hV
        have h := HG2.out _ _ _ hV (by omega)
        rw [hnd] at h
        exact h)
      have hAf : ∀ V, RsAt V B0 rs → Calls Try.prog 45 #[.pointer (some ⟨nd.blk, 0, none⟩)] V fun r w' => r = .returned (pv ((rs[i + 1]?).map Nd.blk)) ∧ w' = V := fun V hV => by
        obtain ⟨hnB, _⟩ := hV.nb i nd hnd
        obtain ⟨_, hh1, _, cs, htw, hc0⟩ := hV.tb i nd hnd
        exact sk_after V nd.blk 0 nd.h nd.h (some ⟨nd.tow, 0, none⟩) (pv ((rs[i + 1]?).map Nd.blk)) (cell_of (i := 5) hnB rfl) (fun h0 => by omega) (fun _ => ⟨nd.tow, rfl, cell_of htw hc0⟩)
      have HAf := Lib.hid hAf
      unfold pv
      simp only [Option.map_some]
      obtain ⟨b, rfl⟩ : ∃ b, bk = some b := Option.ne_none_iff_exists'.1 (HFar.out.2 (fun e => by rw [e] at hnd; cases hnd))
      obtain ⟨hnB, hnf⟩ := hrs.nb i nd hnd
      have n4 : wr.cell? ⟨nd.blk, 4, none⟩ = some (.int .i64 (nd.num : Int)) := cell_of hnB rfl
      have c0 : wr.cell? ⟨cb, 0, none⟩ = some (.int .i64 (c : Int)) := cell_of hcb rfl
      have HTs := Lib.hid (toldI_succ (c := c) hnd)
      have hil : i < rs.length := (List.getElem?_eq_some_iff.1 hnd).1
      have HI := Lib.hid (And.intro hi hil)
      by_cases hlt : nd.num < c
      · have q1 : decide ((nd.num : Int) < (c : Int)) = true := decide_eq_true (by omega)
        have q1n : decide (nd.num < c) = true := decide_eq_true hlt
        have hjn : toldI c rs (i + 1) = toldI c rs i ++ [nd.ent] := by rw [HTs.out, if_pos hlt]
        have hlen : (toldI c rs i).length < (told c rs).length := by
          have h1 := pre_len (toldI_pre c rs (i + 1))
          rw [hjn, List.length_append] at h1
          simp at h1
          omega
        have HIt : Hid (Calls Try.prog 63 #[.pointer (some ⟨pb, 0, none⟩), .pointer (some ⟨nd.blk, 0, none⟩)] wr.drew fun r w' => r = .returned (verV nd.ent) ∧ Below wr.drew.heap.size wr.drew w') := Lib.hid (item_still wr.drew pb W.heap.size b none nd (cell_of (i := 0) hp rfl) (cell_of (i := 1) hp rfl) (cell_of (i := 5) (hch b rfl).1 rfl) hm hnB)
        have HYy : Hid (∀ w2, Below wr.heap.size wr w2 → YieldAt Fence.wide (2 - 1) Try.prog l #[verV nd.ent] w2 fun e V => ∃ bb, e = .returned (.bool bb) ∧ (bb = true → SRel rs c B0 (some b) cb W.heap.size pb J (g - 1) (pv ((rs[i + 1]?).map Nd.blk)) V) ∧ (bb = false → ∃ pre, pre <+: told c rs ∧ Jx pre V)) := Lib.hid (fun w2 hb2 => by
          refine (HY.out _ nd.ent w2 (HJ.out _ _ _ hj (Calm.of_below hb2)) (HFit.out nd (List.mem_of_getElem? hnd)) hlen).mono ?_
          rintro e V (⟨rfl, hj2, hk, hk2⟩ | ⟨rfl, hj2, hk2⟩)
          · refine ⟨true, rfl, fun _ => ?_, fun h => by cases h⟩
            rw [← hjn] at hj2
            have k1 : KpE B0 b0 wr V := (KpE.of_below hb2).trans hk
            have h9 : MapM w2 W.heap.size none := (hb2.block _ (Array.getElem?_eq_some_iff.1 hm).1).trans hm
            refine ⟨i + 1, by omega, rfl, hj2, hrs.keep k1, fun b' e => ⟨k1.same _ _ _ _ (hch b' e).1 (hch b' e).2 (by decide), (hch b' e).2⟩, k1.same _ _ _ _ hcb HFar.out.1.2.2 (by decide), hk2.same _ _ (Nat.le_refl _) h9 rfl, k1.same _ _ _ _ hp HPb.out.2.1 (by decide)⟩
          · refine ⟨false, rfl, (fun h => by cases h), fun _ => ⟨_, ?_, hj2⟩⟩
            rw [← hjn]
            exact toldI_pre c rs (i + 1))
        have HBb := Lib.hid (below_drew (Below.refl wr.heap.size wr))
        clear hj hrs hch hcb hm hp hnd hnB hnf hjn hi hil hlt hlen hAf
        gi_wp2
        gi_region_with (first
          | (refine ⟨trivial, ?_⟩
             gi_at_call 63
             refine (callsIn_wide.2 HIt.out).mono ?_
             rintro r w2 ⟨rfl, hb2⟩
             obtain ⟨fn, tmps, assign, body, hy, hR⟩ := HYy.out w2 (HBb.out.trans hb2))
          | (refine (RoundIn.any hR).mono ?_
             rintro e V ⟨bb, rfl, hbt, hbf⟩))
        all_goals
          clear hy hR
          cases bb
          · have HE := Lib.hid (hbf rfl)
            clear hbt hbf
            gi_wp2
            refine bodyPost_ret (results_none rfl _ _ _) rfl ?_
            exact ⟨⟨_, rfl⟩, .inr HE.out⟩
          · have hn := hbt rfl
            have HN := Lib.hid hn
            have hrsV : RsAt V B0 rs := by
              obtain ⟨_, _, _, _, h4, _⟩ := hn
              exact h4
            have HA1 := Lib.hid (HAf.out V hrsV)
            clear hn hrsV hbt hbf
            gi_wp2_with (refine ⟨trivial, ?_⟩; gi_at_call 45; refine (callsIn_wide.2 HA1.out).mono ?_; rintro r V2 ⟨rfl, hV2⟩; replace hV2 := hV2.symm; subst hV2)
            go_roundw
            case rel => exact ⟨_, HN.out⟩
            case measure => exact HG3.out _ HN.out
      · have q1 : decide ((nd.num : Int) < (c : Int)) = false := decide_eq_false (by omega)
        have q1n : decide (nd.num < c) = false := decide_eq_false hlt
        have hjn : toldI c rs (i + 1) = toldI c rs i := by rw [HTs.out, if_neg hlt]
        have hnx : SRel rs c B0 (some b) cb W.heap.size pb J (g - 1) (pv ((rs[i + 1]?).map Nd.blk)) wr := ⟨i + 1, by omega, rfl, by rw [hjn]; exact hj, hrs, hch, hcb, hm, hp⟩
        have HNx : Hid (∀ V, Below wr.heap.size wr V → SRel rs c B0 (some b) cb W.heap.size pb J (g - 1) (pv ((rs[i + 1]?).map Nd.blk)) V) := Lib.hid (fun V hV => hnx.after HJ.out hV)
        have HA0 : Hid (∀ V, Below wr.heap.size wr V → Calls Try.prog 45 #[.pointer (some ⟨nd.blk, 0, none⟩)] V fun r w' => r = .returned (pv ((rs[i + 1]?).map Nd.blk)) ∧ w' = V) := Lib.hid (fun V hV => HAf.out V (hrs.after hV))
        clear hj hrs hch hcb hm hp hnd hnB hnf hjn hi hil hlt hAf hnx
        gi_wp2
        refine wpIn_wide.2 ?_
        go_quiet (fail)
        have hbn : Below wr.heap.size wr (wr.drewN nq) := below_drewN (Below.refl _ _) _
        have HBn := Lib.hid hbn
        have HA1 := Lib.hid (HA0.out _ hbn)
        obtain ⟨V, hV⟩ : ∃ V, wr.drewN nq = V := ⟨_, rfl⟩
        rw [hV] at HBn HA1 ⊢
        clear hbn hV n4 c0
        gi_wp2_with (refine ⟨trivial, ?_⟩; gi_at_call 45; refine (callsIn_wide.2 HA1.out).mono ?_; rintro r V2 ⟨rfl, hV2⟩; replace hV2 := hV2.symm; subst hV2)
        go_roundw
        case rel => exact ⟨_, HNx.out _ HBn.out⟩
        case measure => exact HG3.out _ (HNx.out _ HBn.out)
end Go.Proofs.Ytaomneenflkpeaa
