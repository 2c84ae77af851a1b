/-
  The walk over the reference's lay; a row of messages laid anew.
-/
import Derived.Test.YtiffoafjgcjgoaaRtA
namespace Go.Proofs.Ytiffoafjgcjgoaa
open Go.RowKit

section
variable {w w' : World} {S T : Nat → Prop} {rb : Nat} {N : PNet} {mv : Value} {us : List Value}
/-- One message more, behind the others. -/
theorem RtAt.snoc (h : RtAt w S rb N mv us) {m : Msg} {y v' : Value} {w3 : World} (hown : OwnM w3 0 v' (N.L ++ [m]) (us ++ [y])) (hg : w.grownBy w3 mv.ownBlock) (ha : v'.ownBlock = mv.ownBlock ∨ v'.ownBlock = some w.heap.size)
    (hy : InS T w y m.txt) (hT : ∀ k, k < w.heap.size → S k → T k) (hTn : T w.heap.size) (hwf : Wf { N with L := N.L ++ [m] }) :
    RtAt (w3.setCell ⟨rb, 3, none⟩ v') T rb { N with L := N.L ++ [m] } v' (us ++ [y]) ∧ Fr S w (w3.setCell ⟨rb, 3, none⟩ v') := by
  have hne : some rb ≠ mv.ownBlock := fun e => by
    obtain ⟨cur, hc⟩ := h.heap e.symm
    exact kind_ne h.blk hc (by decide) rfl
  have hb3 := (hg.block rb h.lt hne).trans h.blk
  have hkeep : ∀ {u : Value} {l : List UInt8}, InS T w u l → InS T (w3.setCell ⟨rb, 3, none⟩ v') u l := fun hu => hu.keep (fun j hj => by
    obtain ⟨cur, hc⟩ := hu.1.heap hj
    refine (setCell_other (kind_ne hc h.blk (by decide)) _).trans (hg.block j (block_lt hc) (fun e => ?_))
    obtain ⟨cur2, hc2⟩ := h.heap e.symm
    exact kind_ne hc hc2 (by decide) rfl) (fun _ _ hs => hs)
  refine ⟨h.refile hT (setCell_same hb3 v') (hown.keep fun k hk => setCell_other (fun e => ?_) _) (fun k hk => ?_) (fun k m' u h1 h2 => ?_) hwf, ?_⟩
  · obtain ⟨cur, hc⟩ := hown.heap hk
    exact kind_ne hc hb3 (by decide) e
  · rcases ha with e | e
    · rw [e] at hk
      obtain ⟨cur, hc⟩ := h.heap hk
      exact hT k (block_lt hc) (h.inRow k hk)
    · rw [e] at hk
      obtain rfl := Option.some.inj hk
      exact hTn
  · have h1' : (N.L ++ [m])[k]? = some m' := h1
    by_cases hk : k < N.L.length
    · rw [List.getElem?_append_left hk] at h1'
      rw [List.getElem?_append_left (by rw [h.len]; exact hk)] at h2
      have hu := h.bytes k m' u h1' h2
      exact hkeep (hu.keep (fun _ _ => rfl) hT)
    · rw [List.getElem?_append_right (by omega)] at h1'
      rw [List.getElem?_append_right (by rw [h.len]; omega), h.len] at h2
      cases hq : k - N.L.length with
      | zero =>
        rw [hq] at h1' h2
        obtain rfl : m = m' := by simpa using h1'
        obtain rfl : y = u := by simpa using h2
        exact hkeep hy
      | succ n =>
        rw [hq] at h1'
        simp at h1'
  · exact (Fr.grown hg (fun k hk => h.inRow k hk)).then (Fr.setCell S w3 (p := ⟨rb, 3, none⟩) h.inS v')
/-- Some of the messages, in a new row. -/
theorem RtAt.newRow (h : RtAt w S rb N mv us) {L' : List Msg} {us' : List Value} {v' : Value} {w2 : World} (hb : Below w.heap.size w w2) (hown : OwnM w2 w.heap.size v' L' us')
    (hby : ∀ (k : Nat) (m : Msg) (u : Value), L'[k]? = some m → us'[k]? = some u → ∃ j : Nat, N.L[j]? = some m ∧ us[j]? = some u) (hwf : Wf { N with L := L' }) :
    RtAt (w2.setCell ⟨rb, 3, none⟩ v') (More S w.heap.size) rb { N with L := L' } v' us' ∧ Fr S w (w2.setCell ⟨rb, 3, none⟩ v') := by
  have hb3 := (hb.block rb h.lt).trans h.blk
  refine ⟨h.refile (base := w.heap.size) (fun _ _ hs => .inl hs) (setCell_same hb3 v') (hown.keep fun k hk => setCell_other (fun e => ?_) _) (fun k hk => .inr (hown.low k hk)) (fun k m u h1 h2 => ?_) hwf, ?_⟩
  · obtain ⟨cur, hc⟩ := hown.heap hk
    exact kind_ne hc hb3 (by decide) e
  · obtain ⟨j, h3, h4⟩ := hby k m u h1 h2
    have hu := h.bytes j m u h3 h4
    refine hu.keep (fun i hi => ?_) (fun _ _ hs => .inl hs)
    obtain ⟨cur, hc⟩ := hu.1.heap hi
    exact (setCell_other (kind_ne hc h.blk (by decide)) _).trans (hb.block i (block_lt hc))
  · exact (Fr.of_new hb S).then (Fr.setCell S w2 (p := ⟨rb, 3, none⟩) h.inS v')
end

theorem not_may {N : PNet} {f t : Int} (hm : may N f t = false) : decide (f < 0) = true ∨ (decide (f < 0) = false ∧ decide ((N.nodes : Int) ≤ f) = true) ∨ (decide (f < 0) = false ∧ decide ((N.nodes : Int) ≤ f) = false ∧ decide (t < 0) = true) ∨
    (decide (f < 0) = false ∧ decide ((N.nodes : Int) ≤ f) = false ∧ decide (t < 0) = false ∧ decide ((N.nodes : Int) ≤ t) = true) ∨ (decide (f < 0) = false ∧ decide ((N.nodes : Int) ≤ f) = false ∧ decide (t < 0) = false ∧ decide ((N.nodes : Int) ≤ t) = false ∧ decide ((N.bound : Int) ≤ (cI N.L f t : Int)) = true ∧ decide (N.bound ≤ cI N.L f t) = true) := by
  by_cases h1 : f < 0
  · exact .inl (by simpa using h1)
  · by_cases h2 : (N.nodes : Int) ≤ f
    · exact .inr (.inl ⟨by simpa using h1, by simpa using h2⟩)
    · by_cases h3 : t < 0
      · exact .inr (.inr (.inl ⟨by simpa using h1, by simpa using h2, by simpa using h3⟩))
      · by_cases h4 : (N.nodes : Int) ≤ t
        · exact .inr (.inr (.inr (.inl ⟨by simpa using h1, by simpa using h2, by simpa using h3, by simpa using h4⟩)))
        · refine .inr (.inr (.inr (.inr ⟨by simpa using h1, by simpa using h2, by simpa using h3, by simpa using h4, ?_⟩)))
          have hl : isLink N f t = true := by rw [isLink_iff]; omega
          rw [may, hl] at hm
          have e : cI N.L f t = cnt N.L f.toNat t.toNat := by
            rw [← cI_nat, Int.toNat_of_nonneg (by omega), Int.toNat_of_nonneg (by omega)]
          rw [e]
          simp at hm
          have h5 : N.bound ≤ cnt N.L f.toNat t.toNat := by omega
          exact ⟨by simpa using h5, by simpa using h5⟩
theorem yes_may {N : PNet} {f t : Int} (hm : may N f t = true) : ∃ f' t' : Nat, f = (f' : Int) ∧ t = (t' : Int) ∧ f' < N.nodes ∧ t' < N.nodes ∧ cnt N.L f' t' < N.bound := by
  obtain ⟨h1, h2⟩ := may_iff.1 hm
  obtain ⟨h3, h4⟩ := isLink_iff.1 h1
  exact ⟨f.toNat, t.toNat, by omega, by omega, by omega, by omega, h2⟩

set_option maxRecDepth 100000 in
set_option maxHeartbeats 4000000 in
theorem rlay_no (w : World) (S : Nat → Prop) (rb : Nat) (N : PNet) (h : Rt w S rb N) (f t : Int) (u : Value) (hm : may N f t = false) :
    Calls Try.prog 32 #[.pointer (some ⟨rb, 0, none⟩), .agg #[.int .i64 f, .int .i64 t, u]] w fun e w' => e = .returned (.bool false) ∧ Below w.heap.size w w' := by
  obtain ⟨X, hX⟩ : ∃ X, w.alloc (.cells #[.int .i64 f, .int .i64 t, u] 41) = X := ⟨_, rfl⟩
  have hb : Below w.heap.size w X := by rw [← hX]; exact (Below.refl _ _).alloc (Nat.le_refl _) _
  have hXb : X.heap[w.heap.size]? = some (.cells #[.int .i64 f, .int .i64 t, u] 41 (0, 0)) := by rw [← hX]; exact heap_alloc_new w _
  have h1 := h.after hb
  have HC : ∀ n, Calls Try.prog 25 #[.pointer (some ⟨rb, 0, none⟩), .int .i64 f, .int .i64 t] (X.drewN n) fun e w' => e = .returned (.int .i64 (cI N.L f t : Int)) ∧ X.drewN n = w' := fun n => count_any _ S rb N (h1.drewN n) f t
  have d0 := cell_of (i := 0) hXb rfl
  have d1 := cell_of (i := 1) hXb rfl
  have hq := not_may hm
  obtain ⟨mv, us, h1⟩ := h1
  have c0 := h1.c0
  have c1 := h1.c1
  have HB := Lib.hid hb
  generalize cI N.L f t = n at *
  clear h h1 hb hXb hm
  rcases hq with q1 | ⟨q1, q2⟩ | ⟨q1, q2, q3⟩ | ⟨q1, q2, q3, q4⟩ | ⟨q1, q2, q3, q4, q5, q6⟩
  all_goals
    go_enter Try.func32, Try.ntmps32
    go_wp2_with fail
    go_quiet ((go_at_call 25; exact q_same (HC _)))
    go_wp2_with fail
    go_ret
    exact ⟨rfl, below_drewN HB.out _⟩

set_option maxRecDepth 100000 in
set_option maxHeartbeats 4000000 in
theorem rlay_yes (w : World) (S : Nat → Prop) (rb : Nat) (N : PNet) (h : Rt w S rb N) (f t : Nat) (hf : f < N.nodes) (ht : t < N.nodes) (hc : cnt N.L f t < N.bound) (u : Value) (s : List UInt8) (hu : Rd w w.heap.size u s) (hs : s.length ≤ 1048576) :
    Calls Try.prog 32 #[.pointer (some ⟨rb, 0, none⟩), .agg #[.int .i64 (f : Int), .int .i64 (t : Int), u]] w fun e w' => e = .returned (.bool true) ∧ Rt w' (More S w.heap.size) rb { N with L := N.L ++ [⟨f, t, s⟩] } ∧ Fr S w w' := by
  obtain ⟨pu, capu, rfl, hlcu, hl47u, hcmu, _⟩ := hu.form
  obtain ⟨X, hX⟩ : ∃ X, w.alloc (.cells #[.int .i64 (f : Int), .int .i64 (t : Int), .slice pu s.length capu] 41) = X := ⟨_, rfl⟩
  have hb : Below w.heap.size w X := by rw [← hX]; exact (Below.refl _ _).alloc (Nat.le_refl _) _
  have hXs : X.heap.size = w.heap.size + 1 := by rw [← hX]; simp
  have hXb : X.heap[w.heap.size]? = some (.cells #[.int .i64 (f : Int), .int .i64 (t : Int), .slice pu s.length capu] 41 (0, 0)) := by rw [← hX]; exact heap_alloc_new w _
  have h1 := h.after hb
  have HC : ∀ n, Calls Try.prog 25 #[.pointer (some ⟨rb, 0, none⟩), .int .i64 (f : Int), .int .i64 (t : Int)] (X.drewN n) fun e w' => e = .returned (.int .i64 (cnt N.L f t : Int)) ∧ X.drewN n = w' := fun n => by
    have := count_any _ S rb N (h1.drewN n) f t
    rw [cI_nat] at this
    exact this
  have d0 := cell_of (i := 0) hXb rfl
  have d1 := cell_of (i := 1) hXb rfl
  have q1 : decide ((f : Int) < 0) = false := by simp
  have q2 : decide ((N.nodes : Int) ≤ (f : Int)) = false := by simp; omega
  have q3 : decide ((t : Int) < 0) = false := by simp
  have q4 : decide ((N.nodes : Int) ≤ (t : Int)) = false := by simp; omega
  have q5 : decide ((N.bound : Int) ≤ (cnt N.L f t : Int)) = false := by simp; omega
  have q6 : decide (N.nodes ≤ f) = false := by simp; omega
  have q7 : decide (N.nodes ≤ t) = false := by simp; omega
  have q8 : decide (N.bound ≤ cnt N.L f t) = false := by simp; omega
  have hlen := h.wf.len
  have HWf : Hid (Wf { N with L := N.L ++ [⟨f, t, s⟩] }) := Lib.hid (by
    have hm : may N f t = true := by
      have hl : isLink N f t = true := by rw [isLink_iff]; omega
      rw [may, hl]
      simpa using hc
    have h2 := h.wf.lay1 (f : Int) (t : Int) s hs
    unfold lay1 at h2
    rw [if_pos hm] at h2
    exact h2)
  obtain ⟨mv, us, h⟩ := h
  have HH := Lib.hid h
  have h1 := h.after hb
  have c0 := h1.c0
  have c1 := h1.c1
  have HB := Lib.hid hb
  have HXb := Lib.hid hXb
  have HU := Lib.hid hu
  have HXs := Lib.hid hXs
  generalize cnt N.L f t = n at *
  clear h h1 hb hXb hc hu hf ht hXs
  go_enter Try.func32, Try.ntmps32
  go_wp2_with fail
  go_quiet ((go_at_call 25; exact q_same (HC _)))
  rename_i nq
  obtain ⟨Y, hY⟩ : ∃ Y, X.drewN nq = Y := ⟨_, rfl⟩
  rw [hY]
  have hbY : Below w.heap.size w Y := by rw [← hY]; exact below_drewN HB.out _
  have hYb : Y.heap[w.heap.size]? = some (.cells #[.int .i64 (f : Int), .int .i64 (t : Int), .slice pu s.length capu] 41 (0, 0)) := by rw [← hY]; exact HXb.out
  have hYs : Y.heap.size = w.heap.size + 1 := by rw [← hY]; exact HXs.out
  clear hY hX
  obtain ⟨Z, hZ⟩ : ∃ Z, Y.alloc (.cells #[] 5) = Z := ⟨_, rfl⟩
  have hbZ : Below Y.heap.size Y Z := by rw [← hZ]; exact (Below.refl _ _).alloc (Nat.le_refl _) _
  have HO : Hid (Own Z Y.heap.size (.slice (some ⟨Y.heap.size, 0, none⟩) 0 0) []) := Lib.hid (by
    rw [← hZ]
    simpa [Own, bs] using World.ownsRow_lit (e := 5) (size := 1) Y #[] 0 (Nat.le_refl _) (Nat.zero_le _) rfl)
  have hbwZ : Below w.heap.size w Z := hbY.trans (hbZ.mono (by omega))
  have HRd : Hid (Rd Z w.heap.size (.slice pu s.length capu) s) := Lib.hid (HU.out.below hbwZ)
  have hZb := (hbZ.block _ (by omega)).trans hYb
  have e2 := cell_of (i := 2) hZb rfl
  have HZb := Lib.hid hZb
  have HZs := Lib.hid hbZ.size
  have HYs := Lib.hid hYs
  have HWZ := Lib.hid hbwZ
  clear hbY hYb hbZ hbwZ hZb d0 d1 c0 c1 hYs
  go_wp2_with (first
    | (at_builtin
       refine wpList_append_rd rfl (.tmp 44) (.tmp 46) rfl Y.heap.size w.heap.size (.slice (some ⟨Y.heap.size, 0, none⟩) 0 0) (.slice pu s.length capu) [] s rfl HO.out rfl HRd.out (by simp; omega) HZs.out ?_
       intro y1 w1 ho1 hb1
       rw [List.nil_append] at ho1
       have x0 := (hb1.block w.heap.size (by have := HYs.out; omega)).trans HZb.out
       have e3 := cell_of (i := 2) x0 rfl
       have z3 := frozen_of (i := 2) x0
       have HX0 := Lib.hid x0
       have HO1 := Lib.hid ho1
       have HB1 := Lib.hid hb1
       obtain ⟨p1, k1, rfl, hk1, hk2⟩ := ho1.shape
       clear x0 ho1 hb1))
  obtain ⟨W2, hW2⟩ : ∃ W2, w1.setCell ⟨w.heap.size, 2, none⟩ (.slice p1 s.length k1) = W2 := ⟨_, rfl⟩
  rw [hW2]
  have hbw1 : Below w.heap.size w w1 := HWZ.out.trans (HB1.out.mono (by have := HYs.out; omega))
  have hW2b : W2.heap[w.heap.size]? = some (.cells #[.int .i64 (f : Int), .int .i64 (t : Int), .slice p1 s.length k1] 41 (0, 0)) := by
    rw [← hW2]
    exact setCell_same HX0.out _
  have hk2 : ∀ b, b ≠ w.heap.size → W2.heap[b]? = w1.heap[b]? := fun b hb => by rw [← hW2]; exact setCell_other hb _
  have hs2 : W2.heap.size = w1.heap.size := by rw [← hW2]; simp
  have hbW2 : Below w.heap.size w W2 := by
    refine hbw1.trans ?_
    rw [← hW2]
    exact (Fr.setCell (fun k => w.heap.size ≤ k) w1 (p := ⟨w.heap.size, 2, none⟩) (Nat.le_refl _) _).below hbw1.size (fun k hk hle => by omega)
  have hR2 := HH.out.after hbW2
  have hIn : InS (fun k => w.heap.size ≤ k) W2 (.slice p1 s.length k1) s := ⟨(HO1.out.keep fun j hj => hk2 j (fun e => by have := HO1.out.block j hj; have := HYs.out; omega)).low, by omega, fun j hj => by have := HO1.out.block j hj; have := HYs.out; omega⟩
  have c3 := hR2.c3
  have t0 := cell_of (i := 0) hW2b rfl
  have t1 := cell_of (i := 1) hW2b rfl
  have t2 := cell_of (i := 2) hW2b rfl
  obtain ⟨pm, km, hmv, hkm1, hkm2, _⟩ := hR2.form
  obtain ⟨A, hA⟩ : ∃ A, W2.drew.alloc (.cells #[.int .i64 (f : Int), .int .i64 (t : Int), .slice p1 s.length k1] 41) = A := ⟨_, rfl⟩
  have hbA : Below W2.heap.size W2 A := by rw [← hA]; exact (below_drew (Below.refl _ _)).alloc (Nat.le_refl _) _
  have HRA := Lib.hid (hR2.after hbA)
  have HOM := Lib.hid (hR2.after hbA).ownM
  have HSm : Hid (Sm A (.slice (some ⟨W2.heap.size, 0, none⟩) 1 1) [⟨f, t, s⟩] [.slice p1 s.length k1]) := Lib.hid (by
    rw [← hA]
    exact Sm.new W2.drew ⟨f, t, s⟩ (.slice p1 s.length k1) 41)
  have HOne : Hid (∀ x ∈ [Value.slice p1 s.length k1], x.oneCell' = true) := Lib.hid (by simp [Value.oneCell'])
  have HLn : Hid (N.L.length + [(⟨f, t, s⟩ : Msg)].length ≤ 1099511627776) := Lib.hid (by simp; omega)
  have HInA : Hid (InS (More S w.heap.size) A (.slice p1 s.length k1) s) := Lib.hid (hIn.keep (fun j hj => by
    obtain ⟨cur, hc⟩ := hIn.1.heap hj
    exact hbA.block j (block_lt hc)) (fun _ _ hs => .inr hs))
  have HbA := Lib.hid (hbW2.trans (hbA.mono hbW2.size))
  subst hmv
  clear hbw1 hW2b hk2 hbW2 hR2 hIn hbA e2 e3 z3 hs2 hW2
  have c3A : (W2.alloc (.cells #[.int .i64 (f : Int), .int .i64 (t : Int), .slice p1 s.length k1] 41)).cell? ⟨rb, 3, none⟩ = some (.slice pm N.L.length km) := (World.cell?_of_block (alloc_old (cell_lt c3) _)).trans c3
  have c3B : A.cell? ⟨rb, 3, none⟩ = some (.slice pm N.L.length km) := HRA.out.c3
  go_region_law (
       refine step_append_M rfl (.tmp 53) (.tmp 55) rfl 0 (v := .slice pm N.L.length km) (u := .slice (some ⟨W2.heap.size, 0, none⟩) 1 1) (by rfl) (by rfl) HOM.out HSm.out HOne.out HLn.out (Nat.zero_le _) ?_
       intro v' w3 ho3 hg3 ha3
       obtain ⟨y1, y2⟩ := HRA.out.snoc ho3 hg3 ha3 HInA.out (fun _ _ hs => .inl hs) (.inr HbA.out.size) HWf.out
       have hne : some rb ≠ (Value.slice pm N.L.length km).ownBlock := fun e => by
         obtain ⟨cur, hc⟩ := HRA.out.heap e.symm
         exact kind_ne HRA.out.blk hc (by decide) rfl
       have hb3 := (hg3.block rb HRA.out.lt hne).trans HRA.out.blk
       have x3 := cell_of (i := 3) hb3 rfl
       have xz := frozen_of (i := 3) hb3
       have HY1 := Lib.hid y1
       have HY2 := Lib.hid y2
       obtain ⟨p3, k3, rfl, hk31, hk32⟩ := ho3.shape
       clear ho3 hg3 ha3 y1 y2 hne hb3)
  all_goals
    go_wp2_with fail
    go_ret
    have hl9 : (N.L ++ [(⟨f, t, s⟩ : Msg)]).length = N.L.length + 1 := by simp
    have y1 := HY1.out
    have y2 := HY2.out
    rw [hl9] at y1 y2
    exact ⟨rfl, ⟨_, _, y1⟩, (Fr.of_new HbA.out S).then y2⟩
end Go.Proofs.Ytiffoafjgcjgoaa
