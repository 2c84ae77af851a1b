/-
  The walk over the sequence of a list's versions (from's closure), where one version has been replaced since: what it had is told.
-/
import Derived.Test.YtaomneenflkpeaaOwA
namespace Go.Proofs.Ytaomneenflkpeaa
open Go.RowKit Go.Shelf
attribute [local go_sem] Oper.semAt_some

/-- What a node had. -/
def oldE (num : Nat) (e0 : Ent) (nd : Nd) : Ent := (lookM (some (num, e0)) nd.num).getD nd.ent
def oldN (num : Nat) (e0 : Ent) (nd : Nd) : Nd := { nd with ent := oldE num e0 nd }
/-- A change that was filled, and the one that waits behind it; none of both is a loop's own. -/
structure ChS (w : World) (B0 : Nat → Prop) (b nb num : Nat) (e0 : Ent) : Prop where
  fil : ChF w b num e0 nb
  bf : ¬ B0 b
  bln : ChB w nb
  nbf : ¬ B0 nb
theorem ChS.keep {A C : World} {B0 : Nat → Prop} {x b nb num : Nat} {e0 : Ent} (h : ChS A B0 b nb num e0) (hk : KpE B0 x A C) : ChS C B0 b nb num e0 :=
  ⟨hk.same _ _ _ _ h.fil h.bf (by decide), h.bf, hk.same _ _ _ _ h.bln h.nbf (by decide), h.nbf⟩
structure SqG (W : World) (B0 : Nat → Prop) (sb fb cb b nb num : Nat) (e0 : Ent) (c : Nat) (rs : List Nd) : Prop where
  since : W.heap[sb]? = some (.cells #[pv (some b)] 63 (0, 0))
  first : W.heap[fb]? = some (.cells #[pv ((rs[0]?).map Nd.blk)] 73 (0, 0))
  cnt : W.heap[cb]? = some (.cells #[.int .i64 (c : Int)] 3 (0, 0))
  far : ¬ B0 sb ∧ ¬ B0 fb ∧ ¬ B0 cb
  low : ∀ k, B0 k → k < W.heap.size
  ch : ChS W B0 b nb num e0
/-- Where the sequence stands: nothing has been told (the change is still ahead), or it has been taken in. -/
def SRelC (rs : List Nd) (c : Nat) (B0 : Nat → Prop) (b nb num : Nat) (e0 : Ent) (cb mm pb : Nat) (W : World) (J : List Ent → World → Prop) (g : Nat) (p : Value) (wr : World) : Prop :=
  ∃ i, i + g = rs.length ∧ p = pv ((rs[i]?).map Nd.blk) ∧ RsAt wr B0 rs ∧ ChS wr B0 b nb num e0 ∧ wr.heap[cb]? = some (.cells #[.int .i64 (c : Int)] 3 (0, 0)) ∧
    ((toldI c (rs.map (oldN num e0)) i = [] ∧ Below W.heap.size W wr ∧ MapM wr mm none ∧ PaB wr pb mm (some b)) ∨ (J (toldI c (rs.map (oldN num e0)) i) wr ∧ MapM wr mm (some (num, e0)) ∧ PaB wr pb mm (some nb)))
theorem SRelC.after {rs : List Nd} {c : Nat} {B0 : Nat → Prop} {b nb num : Nat} {e0 : Ent} {cb mm pb : Nat} {W : World} {J : List Ent → World → Prop} {g : Nat} {p : Value} {A C : World} (_ : W.heap.size ≤ pb) (hJ : Abd W.heap.size J) (h : SRelC rs c B0 b nb num e0 cb mm pb W J g p A) (hb : Below A.heap.size A C) : SRelC rs c B0 b nb num e0 cb mm pb W J g p C := by
  obtain ⟨i, h1, h2, h4, h5, h6, h7⟩ := h
  refine ⟨i, h1, h2, h4.after hb, h5.keep (.of_below hb : KpE B0 0 A C), (hb.block _ (block_lt h6)).trans h6, ?_⟩
  rcases h7 with ⟨k1, k2, k3, k4⟩ | ⟨k1, k3, k4⟩
  · exact .inl ⟨k1, k2.trans (hb.mono k2.size), (hb.block _ (Array.getElem?_eq_some_iff.1 k3).1).trans k3, (hb.block _ (block_lt k4)).trans k4⟩
  · exact .inr ⟨hJ _ _ _ k1 (Calm.of_below hb), (hb.block _ (Array.getElem?_eq_some_iff.1 k3).1).trans k3, (hb.block _ (block_lt k4)).trans k4⟩
/-- Behind an item. -/
structure AfI (rs : List Nd) (c : Nat) (B0 : Nat → Prop) (b nb num : Nat) (e0 : Ent) (cb mm pb : Nat) (J : List Ent → World → Prop) (i : Nat) (w : World) : Prop where
  j : J (toldI c (rs.map (oldN num e0)) i) w
  map : MapM w mm (some (num, e0))
  pas : PaB w pb mm (some nb)
  rs : RsAt w B0 rs
  ch : ChS w B0 b nb num e0
  cnt : w.heap[cb]? = some (.cells #[.int .i64 (c : Int)] 3 (0, 0))

set_option maxRecDepth 100000 in
set_option maxHeartbeats 4000000 in
theorem from1_chg (Y : World) (B0 : Nat → Prop) (b0 sb fb cb c b nb num : Nat) (e0 : Ent) (rs : List Nd) (hsq : SqG Y B0 sb fb cb b nb num e0 c rs) (hrs : RsAt Y B0 rs) (hfit : ∀ nd ∈ rs, FitE (oldE num e0 nd)) :
    SeqQ Fence.wide 2 Try.prog 62 #[.pointer (some ⟨sb, 0, none⟩), .pointer (some ⟨fb, 0, none⟩), .pointer (some ⟨cb, 0, none⟩)] (fun e : Ent => #[verV e]) (KpE B0 b0) (fun e _ => FitE e) (fun xs => xs = told c (rs.map (oldN num e0))) (fun pre => pre <+: told c (rs.map (oldN num e0))) (told c (rs.map (oldN num e0))).length Y := by
  intro l J Jx W hW hJ hJx hY h0
  have hlt := fun {k : Nat} {o : Obj} (h : Y.heap[k]? = some o) => (Array.getElem?_eq_some_iff.1 h).1
  obtain ⟨q, hq⟩ : ∃ q, pv (some b) = .pointer q := ⟨_, rfl⟩
  obtain ⟨p0, hp0⟩ : ∃ p0, pv ((rs[0]?).map Nd.blk) = .pointer p0 := ⟨_, rfl⟩
  obtain ⟨Z1, hZ1⟩ : ∃ Z1, W.alloc (.map #[] 0) = Z1 := ⟨_, rfl⟩
  obtain ⟨Z, hZ⟩ : ∃ Z, Z1.alloc (.cells #[.map (some W.heap.size), .pointer q] 117) = Z := ⟨_, rfl⟩
  have hb1 : Below W.heap.size W Z1 := by rw [← hZ1]; exact (Below.refl _ _).alloc (Nat.le_refl _) _
  have hb2 : Below W.heap.size W Z := by rw [← hZ]; exact hb1.alloc hb1.size _
  have hs1 : Z1.heap.size = W.heap.size + 1 := by rw [← hZ1]; simp
  have hYW := hW.size
  have hY1 : Below Y.heap.size Y Z1 := hW.trans (hb1.mono hYW)
  have hY2 : Below Y.heap.size Y Z := hW.trans (hb2.mono hYW)
  have w0 : Z1.cell? ⟨sb, 0, none⟩ = some (.pointer q) := cell_of ((hY1.block _ (hlt hsq.since)).trans hsq.since) (by rw [hq]; rfl)
  have w1 : Z.cell? ⟨fb, 0, none⟩ = some (.pointer p0) := cell_of ((hY2.block _ (hlt hsq.first)).trans hsq.first) (by rw [hp0]; rfl)
  have hmZ : MapM Z W.heap.size none := by
    unfold MapM
    rw [← hZ, alloc_old (by omega), ← hZ1]
    exact World.alloc_heap_new W _
  have hpZ : Z.heap[Z1.heap.size]? = some (.cells #[.map (some W.heap.size), pv (some b)] 117 (0, 0)) := by rw [hq, ← hZ]; exact heap_alloc_new Z1 _
  obtain ⟨pb, hpb⟩ : ∃ pb, Z1.heap.size = pb := ⟨_, rfl⟩
  have HPb : Hid (W.heap.size ≤ pb ∧ ¬ B0 pb ∧ Y.heap.size ≤ W.heap.size) := Lib.hid ⟨by omega, fun h => by have := hsq.low _ h; omega, hYW⟩
  rw [hpb] at hpZ
  have HJ0 : Hid (J [] W ∧ Below W.heap.size W Z) := Lib.hid ⟨h0, hb2⟩
  have HSt : Hid (RsAt Z B0 rs ∧ ChS Z B0 b nb num e0 ∧ Z.heap[cb]? = some (.cells #[.int .i64 (c : Int)] 3 (0, 0))) := Lib.hid ⟨hrs.keep (.of_below hY2 : KpE B0 Y.heap.size Y Z), hsq.ch.keep (.of_below hY2 : KpE B0 Y.heap.size Y Z), (hY2.block _ (hlt hsq.cnt)).trans hsq.cnt⟩
  have HM := Lib.hid hmZ
  have HP := Lib.hid hpZ
  have HFar := Lib.hid (And.intro hsq.far trivial)
  have HJ := Lib.hid hJ
  have HJx := Lib.hid hJx
  have HY := Lib.hid hY
  have HP0 := Lib.hid hp0
  have HFit := Lib.hid hfit
  have hmm := @run_makeMap Try.prog
  clear hb1 hb2 hs1 hYW hY1 hY2 hmZ hpZ hsq hrs hfit hW hJ hJx hY h0 hlt hq hp0
  refine callsIn_of_wp Try.func62 rfl trivial ?_ rfl
  simp only [Try.ntmps62, List.size_toArray, List.length_cons, List.length_nil, Nat.reduceAdd, Nat.reduceSub, Array.replicate_succ, Array.replicate_zero, List.push_toArray, List.append_toArray, List.nil_append, List.cons_append]
  gi_wp2
  gi_loopw [6] (fun p wr => ∃ g, SRelC rs c B0 b nb num e0 cb W.heap.size pb W J g p wr) (fun p wr => leastOf fun g => SRelC rs c B0 b nb num e0 cb W.heap.size pb W J g p wr)
  case atStart => exact ⟨rs.length, 0, by omega, HP0.out.symm, HSt.out.1, HSt.out.2.1, HSt.out.2.2, .inl ⟨rfl, HJ0.out.2, HM.out, HP.out⟩⟩
  case round =>
    obtain ⟨hg, hmin⟩ := leastOf_spec hrel
    obtain ⟨g, hgd⟩ : ∃ g, (leastOf fun g => SRelC rs c B0 b nb num e0 cb W.heap.size pb W J g u6 wr) = g := ⟨_, rfl⟩
    rw [hgd] at hg
    have HG := Lib.hid hgd
    clear hgd hmin hrel
    have HG2 : Hid (∀ g' p' w', SRelC rs c B0 b nb num e0 cb W.heap.size pb W J g' p' w' → g' < g → (leastOf fun g => SRelC rs c B0 b nb num e0 cb W.heap.size pb W J g p' w') < leastOf fun g => SRelC rs c B0 b nb num e0 cb W.heap.size pb W J g u6 wr) := Lib.hid (fun g' p' w' h1 h2 => by
      have := (leastOf_spec (p := fun g => SRelC rs c B0 b nb num e0 cb W.heap.size pb W J g p' w') ⟨g', h1⟩).2 g' h1
      have := HG.out
      omega)
    clear HG
    obtain ⟨i, hi, rfl, hrs, hch, hcb, hph⟩ := hg
    cases hnd : rs[i]? with
    | none =>
      have hil : i = rs.length := by
        have := List.getElem?_eq_none_iff.1 hnd
        omega
      subst hil
      unfold pv
      simp only [Option.map_none]
      have hj : J (toldI c (rs.map (oldN num e0)) rs.length) wr := by
        rcases hph with ⟨h1, h2, _⟩ | ⟨h1, _⟩
        · rw [h1]; exact HJ.out _ _ _ HJ0.out.1 (Calm.of_below h2)
        · exact h1
      have HJe := Lib.hid hj
      clear hj hrs hch hcb hph hnd
      gi_wp2
      go_end0
      exact ⟨⟨_, rfl⟩, .inl ⟨_, by have h9 := toldI_all c (rs.map (oldN num e0)); rw [List.length_map] at h9; exact h9, HJe.out⟩⟩
    | some nd =>
      have HG3 : Hid (∀ V, SRelC rs c B0 b nb num e0 cb W.heap.size pb W J (g - 1) (pv ((rs[i + 1]?).map Nd.blk)) V → (leastOf fun g => SRelC rs c B0 b nb num e0 cb W.heap.size pb W J g (pv ((rs[i + 1]?).map Nd.blk)) V) < leastOf fun g => SRelC rs c B0 b nb num e0 cb W.heap.size pb W J g (.pointer (some ⟨nd.blk, 0, none⟩)) wr) := Lib.hid (by
        have hil : i < rs.length := (List.getElem?_eq_some_iff.1 hnd).1
        intro V hV
        have h := HG2.out _ _ _ hV (by omega)
        rw [hnd] at h
        exact h)
      have hAf : ∀ V, RsAt V B0 rs → Calls Try.prog 45 #[.pointer (some ⟨nd.blk, 0, none⟩)] V fun r w' => r = .returned (pv ((rs[i + 1]?).map Nd.blk)) ∧ w' = V := fun V hV => by
        obtain ⟨hnB, _⟩ := hV.nb i nd hnd
        obtain ⟨_, hh1, _, cs, htw, hc0⟩ := hV.tb i nd hnd
        exact sk_after V nd.blk 0 nd.h nd.h (some ⟨nd.tow, 0, none⟩) (pv ((rs[i + 1]?).map Nd.blk)) (cell_of (i := 5) hnB rfl) (fun h0 => by omega) (fun _ => ⟨nd.tow, rfl, cell_of htw hc0⟩)
      have HAf := Lib.hid hAf
      unfold pv
      simp only [Option.map_some]
      obtain ⟨hnB, hnf⟩ := hrs.nb i nd hnd
      have n4 : wr.cell? ⟨nd.blk, 4, none⟩ = some (.int .i64 (nd.num : Int)) := cell_of hnB rfl
      have c0 : wr.cell? ⟨cb, 0, none⟩ = some (.int .i64 (c : Int)) := cell_of hcb rfl
      have HTs := Lib.hid (toldI_succ (c := c) (rs := rs.map (oldN num e0)) (i := i) (nd := oldN num e0 nd) (by rw [List.getElem?_map, hnd]; rfl))
      have hil : i < rs.length := (List.getElem?_eq_some_iff.1 hnd).1
      have HI := Lib.hid (And.intro hi hil)
      by_cases hlt : nd.num < c
      · have q1 : decide ((nd.num : Int) < (c : Int)) = true := decide_eq_true (by omega)
        have q1n : decide (nd.num < c) = true := decide_eq_true hlt
        have hjn : toldI c (rs.map (oldN num e0)) (i + 1) = toldI c (rs.map (oldN num e0)) i ++ [oldE num e0 nd] := by rw [HTs.out]; exact if_pos hlt
        have hlen : (toldI c (rs.map (oldN num e0)) i).length < (told c (rs.map (oldN num e0))).length := by
          have h1 := pre_len (toldI_pre c (rs.map (oldN num e0)) (i + 1))
          rw [hjn, List.length_append] at h1
          simp at h1
          omega
        have hbd : Below wr.heap.size wr wr.drew := below_drew (Below.refl _ _)
        have HIt : Hid (Calls Try.prog 63 #[.pointer (some ⟨pb, 0, none⟩), .pointer (some ⟨nd.blk, 0, none⟩)] wr.drew fun r w' => r = .returned (verV (oldE num e0 nd)) ∧ AfI rs c B0 b nb num e0 cb W.heap.size pb J i w') := Lib.hid (by
          rcases hph with ⟨h1, h2, h3, h4⟩ | ⟨h1, h3, h4⟩
          · refine (item_first wr.drew pb W.heap.size b nb num e0 nd h4 hch.fil hch.bln h3 hnB).mono ?_
            rintro r w' ⟨rfl, k1, k2, k3⟩
            have hbw : Below W.heap.size W w' := (h2.trans (hbd.mono h2.size)).trans (k3.below h2.size fun k hk h => by have := HPb.out.1; omega)
            have hke : KpE (fun k => k = W.heap.size ∨ k = pb) wr.drew.heap.size wr.drew w' := ⟨k3.mono fun _ _ h => .inl h, fun k cs t z hk hn _ => k3.keep hk hn⟩
            have hn2 : ∀ {k : Nat} {cs : Array Value} {t : TypeId} {z : Nat × Nat}, wr.heap[k]? = some (.cells cs t z) → t ≠ 117 → w'.heap[k]? = some (.cells cs t z) := fun {k cs t z} hk ht => k3.keep (w := wr.drew) hk fun h => h.elim (fun e => by
                subst e
                have h9 := h3
                unfold MapM at h9
                rw [h9] at hk
                cases hk) (fun e => kind_ne hk h4 ht e)
            exact ⟨rfl, ⟨by rw [h1]; exact HJ.out _ _ _ HJ0.out.1 (Calm.of_below hbw), k1, k2, ⟨fun j n hj => ⟨hn2 (hrs.nb j n hj).1 (by decide), (hrs.nb j n hj).2⟩, fun j n hj => by
              obtain ⟨q1, q2, q3, cs, q4, q5⟩ := hrs.tb j n hj
              exact ⟨q1, q2, q3, cs, hn2 q4 (by decide), q5⟩⟩, ⟨hn2 hch.fil (by decide), hch.bf, hn2 hch.bln (by decide), hch.nbf⟩, hn2 hcb (by decide)⟩⟩
          · refine (item_still wr.drew pb W.heap.size nb (some (num, e0)) nd (cell_of (i := 0) h4 rfl) (cell_of (i := 1) h4 rfl) (cell_of (i := 5) hch.bln rfl) h3 hnB).mono ?_
            rintro r w' ⟨rfl, hb9⟩
            have hb2 : Below wr.heap.size wr w' := hbd.trans hb9
            exact ⟨rfl, ⟨HJ.out _ _ _ h1 (Calm.of_below hb2), (hb2.block _ (Array.getElem?_eq_some_iff.1 h3).1).trans h3, (hb2.block _ (block_lt h4)).trans h4, hrs.after hb2, hch.keep (.of_below hb2 : KpE B0 0 wr w'), (hb2.block _ (block_lt hcb)).trans hcb⟩⟩)
        have HYy : Hid (∀ w2, AfI rs c B0 b nb num e0 cb W.heap.size pb J i w2 → YieldAt Fence.wide (2 - 1) Try.prog l #[verV (oldE num e0 nd)] w2 fun e V => ∃ bb, e = .returned (.bool bb) ∧ (bb = true → SRelC rs c B0 b nb num e0 cb W.heap.size pb W J (g - 1) (pv ((rs[i + 1]?).map Nd.blk)) V) ∧ (bb = false → ∃ pre, pre <+: told c (rs.map (oldN num e0)) ∧ Jx pre V)) := Lib.hid (fun w2 ha => by
          refine (HY.out _ (oldE num e0 nd) w2 ha.j (HFit.out nd (List.mem_of_getElem? hnd)) hlen).mono ?_
          rintro e V (⟨rfl, hj2, hk, hk2⟩ | ⟨rfl, hj2, hk2⟩)
          · refine ⟨true, rfl, fun _ => ?_, fun h => by cases h⟩
            rw [← hjn] at hj2
            have h9 := ha.map
            refine ⟨i + 1, by omega, rfl, ha.rs.keep hk, ha.ch.keep hk, hk.same _ _ _ _ ha.cnt HFar.out.1.2.2 (by decide), .inr ⟨hj2, hk2.same _ _ (Nat.le_refl _) h9 rfl, hk.same _ _ _ _ ha.pas HPb.out.2.1 (by decide)⟩⟩
          · refine ⟨false, rfl, (fun h => by cases h), fun _ => ⟨_, ?_, hj2⟩⟩
            rw [← hjn]
            exact toldI_pre c (rs.map (oldN num e0)) (i + 1))
        have HBb := Lib.hid (below_drew (Below.refl wr.heap.size wr))
        clear hph hrs hch hcb hnd hnB hnf hjn hi hil hlt hlen hAf hbd
        gi_wp2
        gi_region_with (first
          | (refine ⟨trivial, ?_⟩
             gi_at_call 63
             refine (callsIn_wide.2 HIt.out).mono ?_
             rintro r w2 ⟨rfl, hb2⟩
             obtain ⟨fn, tmps, assign, body, hy, hR⟩ := HYy.out w2 hb2)
          | (refine (RoundIn.any hR).mono ?_
             rintro e V ⟨bb, rfl, hbt, hbf⟩))
        all_goals
          clear hy hR
          cases bb
          · have HE := Lib.hid (hbf rfl)
            clear hbt hbf
            gi_wp2
            refine bodyPost_ret (results_none rfl _ _ _) rfl ?_
            exact ⟨⟨_, rfl⟩, .inr HE.out⟩
          · have hn := hbt rfl
            have HN := Lib.hid hn
            have hrsV : RsAt V B0 rs := by
              obtain ⟨_, _, _, h4, _⟩ := hn
              exact h4
            have HA1 := Lib.hid (HAf.out V hrsV)
            clear hn hrsV hbt hbf
            gi_wp2_with (refine ⟨trivial, ?_⟩; gi_at_call 45; refine (callsIn_wide.2 HA1.out).mono ?_; rintro r V2 ⟨rfl, hV2⟩; replace hV2 := hV2.symm; subst hV2)
            go_roundw
            case rel => exact ⟨_, HN.out⟩
            case measure => exact HG3.out _ HN.out
      · have q1 : decide ((nd.num : Int) < (c : Int)) = false := decide_eq_false (by omega)
        have q1n : decide (nd.num < c) = false := decide_eq_false hlt
        have hjn : toldI c (rs.map (oldN num e0)) (i + 1) = toldI c (rs.map (oldN num e0)) i := by rw [HTs.out]; exact if_neg hlt
        have hnx : SRelC rs c B0 b nb num e0 cb W.heap.size pb W J (g - 1) (pv ((rs[i + 1]?).map Nd.blk)) wr := ⟨i + 1, by omega, rfl, hrs, hch, hcb, by rw [hjn]; exact hph⟩
        have HNx : Hid (∀ V, Below wr.heap.size wr V → SRelC rs c B0 b nb num e0 cb W.heap.size pb W J (g - 1) (pv ((rs[i + 1]?).map Nd.blk)) V) := Lib.hid (fun V hV => hnx.after HPb.out.1 HJ.out hV)
        have HA0 : Hid (∀ V, Below wr.heap.size wr V → Calls Try.prog 45 #[.pointer (some ⟨nd.blk, 0, none⟩)] V fun r w' => r = .returned (pv ((rs[i + 1]?).map Nd.blk)) ∧ w' = V) := Lib.hid (fun V hV => HAf.out V (hrs.after hV))
        clear hph hrs hch hcb hnd hnB hnf hjn hi hil hlt hAf hnx
        gi_wp2
        refine wpIn_wide.2 ?_
        go_quiet (fail)
        have hbn : Below wr.heap.size wr (wr.drewN nq) := below_drewN (Below.refl _ _) _
        have HBn := Lib.hid hbn
        have HA1 := Lib.hid (HA0.out _ hbn)
        obtain ⟨V, hV⟩ : ∃ V, wr.drewN nq = V := ⟨_, rfl⟩
        rw [hV] at HBn HA1 ⊢
        clear hbn hV n4 c0
        gi_wp2_with (refine ⟨trivial, ?_⟩; gi_at_call 45; refine (callsIn_wide.2 HA1.out).mono ?_; rintro r V2 ⟨rfl, hV2⟩; replace hV2 := hV2.symm; subst hV2)
        go_roundw
        case rel => exact ⟨_, HNx.out _ HBn.out⟩
        case measure => exact HG3.out _ (HNx.out _ HBn.out)
end Go.Proofs.Ytaomneenflkpeaa
