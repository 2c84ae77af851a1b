/-
  The pieces of a list, as a sequence: the walks over merge.runs and its closure.
-/
import Derived.Test.YteclnnjijfbfoaaMgD
import Derived.Test.YteclnnjijfbfoaaEnH
import Derived.Test.YteclnnjijfbfoaaRngF
namespace Go.Proofs.Yteclnnjijfbfoaa
open Go.RowKit Go.Shelf
attribute [local go_sem] Oper.semAt_some

theorem room_any (k : Nat) : Fence.wide.room k := fun d h => by cases h
theorem roundAny {m m' : Nat} {P : Program} {l : Nat} {f : FuncId} {tmps : Array Value} {assign body : Code} {w : World} {R : Ending → World → Prop} (h : RoundIn Fence.wide m P l f tmps assign body w R) : RoundIn Fence.wide m' P l f tmps assign body w R :=
  ⟨h.1, fun c cs _ => h.2 c cs (room_any _)⟩

/-- A piece as it is told: its versions, and where they lie. -/
abbrev Pc := List Ent × (Option Addr × Nat)
def encP (x : Pc) : Array Value := #[.slice x.2.1 x.1.length x.2.2]
def QP (F : Nat → Prop) (l : List Ent) (x : Pc) (W : World) : Prop :=
  En W F (.slice x.2.1 x.1.length x.2.2) x.1 ∧ SrtE x.1 ∧ (∀ a ∈ x.1, ∀ b ∈ x.1, a.key = b.key) ∧ x.1.length ≤ l.length ∧ ∀ e ∈ x.1, e ∈ l
/-- What the sequence of a list's pieces, made in Y, promises a loop whose own boxes are B0. -/
def SeqP (gf : Nat) (lb : Array Value) (es : List Ent) (F B0 : Nat → Prop) (Y : World) : Prop :=
  SeqQ Fence.wide 2 Try.prog gf lb encP (KpE B0 Y.heap.size) (QP F es) (fun xs => PcsE es (xs.map Prod.fst)) (fun _ => True) (es.length + 1) Y
theorem pcE_len {l : List Ent} {b i : Nat} (hb : b ≤ i) (hi : i ≤ l.length) : (pcE l b i).length = i - b := by
  unfold pcE; rw [List.length_take, List.length_drop]; omega
theorem pcE_sub (l : List Ent) (b i : Nat) : (pcE l b i).Sublist l := (List.take_sublist _ _).trans (List.drop_sublist _ _)
theorem PcI.few {l : List Ent} {ps : List (List Ent)} {b i : Nat} (h : PcI l ps b i) (hne : ∀ p ∈ ps, p ≠ []) : ps.length ≤ b := by
  have h1 : ps.length ≤ ps.flatten.length := by
    clear h
    induction ps with
    | nil => simp
    | cons p r ih =>
      have := ih fun q hq => hne q (by simp [hq])
      have h0 : 0 < p.length := List.length_pos_iff.2 (hne p (by simp))
      rw [List.flatten_cons, List.length_append, List.length_cons]
      omega
  rw [h.pcs.flat, List.length_take] at h1
  omega

set_option maxRecDepth 100000 in
set_option maxHeartbeats 1000000 in
theorem mg_runs (w : World) (v : Value) (hv : v.oneCell' = true) : Calls Try.prog 35 #[v, .func (.func 36) #[] #[]] w fun r w' =>
    r = .returned (.func (.func 54) #[] #[.pointer (some ⟨w.heap.size, 0, none⟩), .pointer (some ⟨w.heap.size + 1, 0, none⟩)]) ∧
    w'.heap[w.heap.size]? = some (.cells #[v] 26 (0, 0)) ∧ w'.heap[w.heap.size + 1]? = some (.cells #[.func (.func 36) #[] #[]] 68 (0, 0)) ∧ Below w.heap.size w w' := by
  obtain ⟨X, hX⟩ : ∃ X, (w.alloc (.cells #[v] 26)).alloc (.cells #[.func (.func 36) #[] #[]] 68) = X := ⟨_, rfl⟩
  have HB : Hid (Below w.heap.size w X) := Lib.hid (by rw [← hX]; exact ((Below.refl _ _).alloc (Nat.le_refl _) _).alloc (by simp) _)
  have HXa : Hid (X.heap[w.heap.size]? = some (.cells #[v] 26 (0, 0))) := Lib.hid (by
    rw [← hX]
    exact (alloc_old (by simp) _).trans (heap_alloc_new w _))
  have HXb : Hid (X.heap[w.heap.size + 1]? = some (.cells #[.func (.func 36) #[] #[]] 68 (0, 0))) := Lib.hid (by
    rw [← hX]
    exact heap_alloc2_new w _ _)
  go_enter Try.func35, Try.ntmps35
  go_wp2_with fail
  go_ret
  refine ⟨rfl, ?_, ?_, ?_⟩
  · rw [hX]; exact HXa.out
  · rw [hX]; exact HXb.out
  · rw [hX]; exact HB.out

/-- Where the loop over a list's entries stands. -/
def RunI (es : List Ent) (B0 : Nat → Prop) (Y : World) (J : List Pc → World → Prop) (b i : Nat) (wr : World) : Prop :=
  ∃ pre : List Pc, PcI es (pre.map Prod.fst) b i ∧ (∀ p ∈ pre, p.1 ≠ []) ∧ J pre wr ∧ KpE B0 Y.heap.size Y wr

set_option maxRecDepth 100000 in
set_option maxHeartbeats 4000000 in
theorem runs1_seq (Y : World) (F B0 : Nat → Prop) (bl bs : Nat) (v : Value) (es : List Ent) (hbl : Y.heap[bl]? = some (.cells #[v] 26 (0, 0))) (hbs : Y.heap[bs]? = some (.cells #[.func (.func 36) #[] #[]] 68 (0, 0)))
    (h : En Y F v es) (hF : ∀ k, F k → k < Y.heap.size ∧ ¬ B0 k) (hB : ¬ B0 bl ∧ ¬ B0 bs) (hs : SrtE es) :
    SeqP 54 #[.pointer (some ⟨bl, 0, none⟩), .pointer (some ⟨bs, 0, none⟩)] es F B0 Y := by
  intro l J Jx W hW hJ hJx hY h0
  obtain ⟨p, cap, rfl, hlc, hl47, hcm, _⟩ := h.form
  have HKc : Hid (∀ V, KpE B0 Y.heap.size Y V → V.cell? ⟨bl, 0, none⟩ = some (.slice p es.length cap) ∧ V.cell? ⟨bs, 0, none⟩ = some (.func (.func 36) #[] #[]) ∧ En V F (.slice p es.length cap) es) := Lib.hid (fun V hV =>
    ⟨cell_of (hV.same _ _ _ _ hbl hB.1 (by decide)) rfl, cell_of (hV.same _ _ _ _ hbs hB.2 (by decide)) rfl, h.step hV.fr (fun k _ hFk e => e.elim (hF k hFk).2 (fun hle => by have := (hF k hFk).1; omega))⟩)
  have w0 : W.cell? ⟨bl, 0, none⟩ = some (.slice p es.length cap) := (HKc.out W (.of_below hW)).1
  have HI0 : Hid (RunI es B0 Y J 0 0 W) := Lib.hid ⟨[], PcI.start es, (fun p hp => by cases hp), h0, .of_below hW⟩
  have HJ := Lib.hid hJ
  have HJx := Lib.hid hJx
  have HY := Lib.hid hY
  have HS := Lib.hid hs
  clear h hF hB hs hW hJ hJx hY h0 hbl hbs
  refine callsIn_of_wp Try.func54 rfl trivial ?_ rfl
  simp only [Try.ntmps54, List.size_toArray, List.length_cons, List.length_nil, Nat.reduceAdd, Nat.reduceSub, Array.replicate_succ, Array.replicate_zero, List.push_toArray, List.append_toArray, List.nil_append, List.cons_append]
  gi_wp2
  clear w0
  gi_loopw [4, 8] (fun s4 s8 wr => ∃ b i : Nat, s4 = .int .i64 (b : Int) ∧ s8 = .int .i64 (i : Int) ∧ RunI es B0 Y J b i wr) (fun _ s8 _ => es.length - (intOf s8).toNat)
  case atStart => exact ⟨0, 0, rfl, rfl, HI0.out⟩
  case round =>
    obtain ⟨b, i, rfl, rfl, hri⟩ := hrel
    obtain ⟨pre, hpc, hne, hj, hkp⟩ := hri
    obtain ⟨k0, k1, hen⟩ := HKc.out wr hkp
    have hbi := hpc.hb
    have hil := hpc.hi
    have HPc := Lib.hid hpc
    have HNe := Lib.hid hne
    have HKp := Lib.hid hkp
    have HJw := Lib.hid hj
    have HEn := Lib.hid hen
    have HFew : Hid (pre.length < es.length + 1) := Lib.hid (by
      have := hpc.few (fun q hq => by
        obtain ⟨x, hx, rfl⟩ := List.mem_map.1 hq
        exact hne x hx)
      rw [List.length_map] at this
      omega)
    clear hpc hne hkp hj hen HI0
    -- a piece is handed out
    have HYy : Hid (b < i → ∀ q c w2, Below wr.heap.size wr w2 → En w2 F (.slice q (i - b) c) (pcE es b i) → YieldAt Fence.wide (2 - 1) Try.prog l #[.slice q (i - b) c] w2 fun e V => ∃ bb, e = .returned (.bool bb) ∧
        (bb = true → J (pre ++ [(pcE es b i, (q, c))]) V ∧ KpE B0 Y.heap.size Y V) ∧ (bb = false → ∃ pre', Jx pre' V)) := Lib.hid (fun hb q c w2 hb2 he2 => by
      have hlen := pcE_len (Nat.le_of_lt hb) HPc.out.hi
      have hq : QP F es (pcE es b i, (q, c)) w2 := ⟨by rw [hlen]; exact he2, List.Pairwise.sublist (pcE_sub es b i) HS.out, HPc.out.told.same _ (by simp), (pcE_sub es b i).length_le, fun e he => (pcE_sub es b i).subset he⟩
      have hy := HY.out pre (pcE es b i, (q, c)) w2 (HJ.out _ _ _ HJw.out (Calm.of_below hb2)) hq HFew.out
      unfold encP at hy
      dsimp only at hy
      rw [hlen] at hy
      refine hy.mono ?_
      rintro e V (⟨rfl, hj2, hk, hk2⟩ | ⟨rfl, hj2, hk2⟩)
      · exact ⟨true, rfl, fun _ => ⟨hj2, HKp.out.trans ((KpE.of_below hb2).trans hk)⟩, fun h => by cases h⟩
      · exact ⟨false, rfl, (fun h => by cases h), fun _ => ⟨_, hj2⟩⟩)
    by_cases hlt : i < es.length
    · rcases Nat.eq_or_lt_of_le hbi with hbe | hbl
      · -- the first entry
        obtain rfl : b = i := hbe
        have q0 : decide ((b : Int) < (b : Int)) = false := by simp
        have q0n : decide (b < b) = false := by simp
        have HNx : Hid (∀ n, RunI es B0 Y J b (b + 1) (wr.drewN n)) := Lib.hid (fun n => ⟨pre, HPc.out.on hlt (.inl rfl), HNe.out, HJ.out _ _ _ HJw.out (Calm.of_below (below_drewN (Below.refl _ _) n)), HKp.out.trans (KpE.of_below (below_drewN (Below.refl _ _) n))⟩)
        clear HYy
        gi_wp2
        refine wpIn_wide.2 ?_
        go_quiet (fail)
        gi_wp2
        go_roundw
        case rel => exact ⟨b, b + 1, rfl, by go_num, HNx.out _⟩
        case measure => simp [intOf]; omega
      · have q0 : decide ((b : Int) < (i : Int)) = true := by simp; omega
        have q0n : decide (b < i) = true := by simp; omega
        obtain ⟨b1, off1, q1, c1, hp1, hb1, _, hV1, d0, d1, d2, d3⟩ := HEn.out.at_ (List.getElem?_eq_getElem (show b < es.length by omega))
        obtain ⟨b2, off2, q2, c2, hp2, hb2, _, hV2, e0, e1, e2, e3⟩ := HEn.out.at_ (List.getElem?_eq_getElem hlt)
        subst hp1
        obtain ⟨rfl, rfl⟩ : b1 = b2 ∧ off1 = off2 := by simpa using hp2
        have HC := Lib.hid (mg_sameKey wr.drew es[b] es[i] q1 q2 es[b].val.length es[i].val.length c1 c2)
        have HKey : Hid ((es[b].key == es[i].key) = true → PcI es (pre.map Prod.fst) b (i + 1)) := Lib.hid (fun hk => HPc.out.on hlt (.inr (show es[b].key = es[i].key by simpa using hk).symm))
        have HCut : Hid ((es[b].key == es[i].key) = false → PcI es (pre.map Prod.fst ++ [pcE es b i]) i (i + 1)) := Lib.hid (fun hk => HPc.out.cut HS.out hlt hbl (fun e => by rw [e] at hk; simp at hk))
        have hi63 : (0 : Int) ≤ (i : Int) := by omega
        have hb63 : (0 : Int) ≤ (b : Int) := by omega
        have hi64 : (i : Int) < (es.length : Int) := by omega
        have hb64 : (b : Int) < (es.length : Int) := by omega
        generalize (es[b].key == es[i].key) = sk at *
        generalize es[b] = x at *
        generalize es[i] = y at *
        clear hV1 hV2 hb1 hb2 hp2
        gi_wp2
        refine wpIn_wide.2 ?_
        refine wp_region_quiet_tail 13 (by kernel_rfl) (by kernel_rfl) ?_
        simp only [List.take_succ_cons, List.take_zero, List.drop_succ_cons, List.drop_zero]
        repeat (go_big_quiet_step (fail))
        refine wpQuiet_nil ?_
        go_wp2_with fail
        refine HC.out.mono ?_
        rintro r w2 ⟨rfl, hb2⟩
        have HB2 : Hid (Below wr.heap.size wr w2) := Lib.hid ((below_drew (Below.refl wr.heap.size wr)).trans hb2)
        clear hb2 d0 d1 d2 d3 e0 e1 e2 e3 k0 k1 HC
        cases sk
        · -- another key: the piece ends
          obtain ⟨k2, _, hen2⟩ := HKc.out w2 (HKp.out.trans (KpE.of_below HB2.out))
          obtain ⟨qx, cx, hex, _, hrun⟩ := hen2.cut hbi hil
          obtain ⟨fn, tmps, assign, body, hy, hR⟩ := HYy.out hbl qx cx w2 HB2.out hex
          have HNx : Hid (∀ V, J (pre ++ [(pcE es b i, (qx, cx))]) V ∧ KpE B0 Y.heap.size Y V → RunI es B0 Y J i (i + 1) V) := Lib.hid (fun V hV => ⟨_, by rw [List.map_append]; exact HCut.out rfl, fun p hp => by
            rcases List.mem_append.1 hp with hp | hp
            · exact HNe.out p hp
            · obtain rfl := List.mem_singleton.1 hp
              intro e
              have e1 : pcE es b i = [] := e
              have := pcE_len (l := es) hbi hil
              rw [e1] at this
              simp at this
              omega, hV.1, hV.2⟩)
          clear hen2 hex
          go_wp2_with fail
          gi_wp2
          refine (roundAny hR).mono ?_
          rintro e V ⟨bb, rfl, hbt, hbf⟩
          cases bb
          · have HE := Lib.hid (hbf rfl)
            clear hbt hbf hy hR hrun
            gi_wp2
            refine bodyPost_ret (results_none rfl _ _ _) rfl ?_
            obtain ⟨pre', h9⟩ := HE.out
            exact ⟨⟨_, rfl⟩, .inr ⟨pre', trivial, h9⟩⟩
          · have HE := Lib.hid (HNx.out _ (hbt rfl))
            clear hbt hbf hy hR hrun
            gi_wp2
            go_roundw
            case rel => exact ⟨i, i + 1, rfl, by go_num, HE.out⟩
            case measure => simp [intOf]; omega
        · have HNx : Hid (RunI es B0 Y J b (i + 1) w2) := Lib.hid ⟨pre, HKey.out rfl, HNe.out, HJ.out _ _ _ HJw.out (Calm.of_below HB2.out), HKp.out.trans (KpE.of_below HB2.out)⟩
          go_wp2_with fail
          gi_wp2
          go_roundw
          case rel => exact ⟨b, i + 1, rfl, by go_num, HNx.out⟩
          case measure => simp [intOf]; omega
    · obtain rfl : i = es.length := by omega
      rcases Nat.eq_or_lt_of_le hbi with hbe | hbl
      · -- no entries
        obtain rfl : b = es.length := hbe
        have hz : es.length = 0 := HPc.out.zero rfl
        have q0 : decide ((es.length : Int) < (es.length : Int)) = false := by simp
        have q0n : decide (es.length < es.length) = false := by simp
        have HFin : Hid (∃ xs : List Pc, PcsE es (xs.map Prod.fst) ∧ J xs wr) := Lib.hid ⟨pre, by
          have := HPc.out.pcs
          rwa [List.take_length] at this, HJw.out⟩
        clear hz HYy
        gi_wp2
        go_end0
        exact ⟨⟨_, rfl⟩, .inl HFin.out⟩
      · have q0 : decide ((b : Int) < (es.length : Int)) = true := by simp; omega
        have q0n : decide (b < es.length) = true := by simp; omega
        obtain ⟨qx, cx, hex, hrun⟩ := HEn.out.from_ hbi
        rw [← pcE_all] at hex
        obtain ⟨fn, tmps, assign, body, hy, hR⟩ := HYy.out hbl qx cx wr (Below.refl _ _) hex
        have HFin : Hid (∀ V, J (pre ++ [(pcE es b es.length, (qx, cx))]) V → ∃ xs : List Pc, PcsE es (xs.map Prod.fst) ∧ J xs V) := Lib.hid (fun V hV => ⟨_, by rw [List.map_append]; exact HPc.out.all, hV⟩)
        clear hex
        gi_wp2
        refine (roundAny hR).mono ?_
        rintro e V ⟨bb, rfl, hbt, hbf⟩
        cases bb
        · have HE := Lib.hid (hbf rfl)
          clear hbt hbf hy hR hrun
          gi_wp2
          go_end0
          obtain ⟨pre', h9⟩ := HE.out
          exact ⟨⟨_, rfl⟩, .inr ⟨pre', trivial, h9⟩⟩
        · have HE := Lib.hid (hbt rfl)
          clear hbt hbf hy hR hrun
          gi_wp2
          go_end0
          exact ⟨⟨_, rfl⟩, .inl (HFin.out _ HE.out.1)⟩
end Go.Proofs.Yteclnnjijfbfoaa
