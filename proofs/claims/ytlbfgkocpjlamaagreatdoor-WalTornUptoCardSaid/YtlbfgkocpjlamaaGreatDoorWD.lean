import Derived.Test.YtlbfgkocpjlamaaGreatDoorBlk
import Derived.Test.YtlbfgkocpjlamaaGreatDoorSynW
import Derived.Test.YtlbfgkocpjlamaaGreatDoorCC
import Derived.Test.YtlbfgkocpjlamaaGreatDoorWC

/-
  Rows of one-cell values of the call's own: what they read as, what is appended to them.
-/
namespace Go.Proofs.YtlbfgkocpjlamaaGreatDoor
open Go.RowKit

def OwnX (w : World) (e : TypeId) (base : Nat) (v : Value) (xs : List Value) : Prop := w.ownsRow base e 1 v xs.length xs
section
variable {w w' : World} {e : TypeId} {base : Nat} {v : Value} {xs : List Value}
theorem OwnX.nil (w : World) (e : TypeId) (base : Nat) : OwnX w e base (.slice none 0 0) [] := World.ownsRow_nil _ _ _ _
theorem OwnX.shape (h : OwnX w e base v xs) : ∃ p cap, v = .slice p xs.length cap ∧ xs.length ≤ cap ∧ cap ≤ 9223372036854775807 := by
  rcases h.2 with ⟨rfl, h0⟩ | ⟨g, cap, cur, rfl, _, _, h1, h2, _⟩
  · exact ⟨none, 0, by rw [h0], by omega, by omega⟩
  · exact ⟨_, cap, rfl, h1, by unfold maxLen at h2; exact h2⟩
theorem OwnX.lt (h : OwnX w e base v xs) : ∀ k, v.ownBlock = some k → base ≤ k ∧ k < w.heap.size := fun k hk => World.ownsRow.lt h k hk
theorem OwnX.keep (h : OwnX w e base v xs) (hk : ∀ k, v.ownBlock = some k → w'.heap[k]? = w.heap[k]?) : OwnX w' e base v xs := by
  refine ⟨h.1, ?_⟩
  rcases h.2 with hn | ⟨g, cap, cur, rfl, h1, h2, h3⟩
  · exact .inl hn
  · exact .inr ⟨g, cap, cur, rfl, h1, (hk g (by simp [Value.ownBlock])).trans h2, h3⟩
theorem OwnX.fr {S : Nat → Prop} (h : OwnX w e base v xs) (hf : Fr S w w') (hn : ∀ k, v.ownBlock = some k → ¬ S k) : OwnX w' e base v xs :=
  h.keep fun k hk => hf.block k (h.lt k hk).2 (hn k hk)
theorem OwnX.below (h : OwnX w e base v xs) (hb : Below w.heap.size w w') : OwnX w' e base v xs := h.keep fun k hk => hb.block k (h.lt k hk).2
theorem OwnX.alloc (h : OwnX w e base v xs) (o : Obj) : OwnX (w.alloc o) e base v xs := World.ownsRow.alloc h o
theorem OwnX.more {base' : Nat} (h : OwnX w e base v xs) (hb : base' ≤ base) : OwnX w e base' v xs := by
  refine ⟨h.1, ?_⟩
  rcases h.2 with hn | ⟨g, cap, cur, e, h1, h2⟩
  · exact .inl hn
  · exact .inr ⟨g, cap, cur, e, by omega, h2⟩
theorem OwnX.rdv (h : OwnX w e base v xs) (hl : xs.length ≤ 140737488355328) {S : Nat → Prop} (hS : ∀ k, v.ownBlock = some k → ¬ S k) : RdV w S v xs := by
  rcases h.2 with ⟨rfl, h0⟩ | ⟨g, cap, cur, rfl, hb, hg, h1, h2, h3, h4⟩
  · have : xs = [] := List.eq_nil_of_length_eq_zero h0
    subst this
    exact RdV.nil _ _
  · refine ⟨_, cap, rfl, h1, hl, by unfold maxLen at h2; exact h2, (fun e => by cases e), fun k x hx => ⟨g, 0, rfl, block_lt hg, hS g rfl, ?_⟩⟩
    have hk : k < xs.length := (List.getElem?_eq_some_iff.1 hx).1
    rw [Nat.zero_add]
    have h5 : cur.toList[k]? = some x := by
      rw [← hx, ← h4, List.getElem?_take_of_lt (by omega)]
    exact cell_of hg (by rw [← Array.getElem?_toList]; exact h5)
end
/-- One cell, newly made. -/
theorem RdV.one (w : World) (S : Nat → Prop) (x : Value) (t : TypeId) (hS : ¬ S w.heap.size) : RdV (w.alloc (.cells #[x] t)) S (.slice (some ⟨w.heap.size, 0, none⟩) 1 1) [x] := by
  refine ⟨_, 1, rfl, Nat.le_refl _, by simp, by omega, (fun e => by cases e), fun k u hu => ⟨w.heap.size, 0, rfl, by simp, hS, ?_⟩⟩
  have hk : k = 0 := by
    have := (List.getElem?_eq_some_iff.1 hu).1
    simpa using this
  subst hk
  obtain rfl : x = u := by simpa using hu
  rw [Nat.zero_add, cell_of_row _ _ _ _ _ _ (heap_alloc_new w (.cells #[x] t))]
  rfl

theorem infoInt : (Tryz.prog.info? 3).map (fun i => (i.zero, i.size, i.bytes)) = some (some (.int .i64 0), 1, 8) := by kernel_rfl

/-- What is appended to a row of the call's own: whatever is read. -/
theorem wpList_append_x {te e : TypeId} {z : Value} {nb : Nat} (hu : Tryz.prog.underlying te = some (.slice e)) (hin : (Tryz.prog.info? e).map (fun i => (i.zero, i.size, i.bytes)) = some (some z, 1, nb)) (hzc : z.cells.size = 1)
    {w : World} {ops : Array Oper} {rest : List Oper} {o : Oper} {a : Act} {Q : Exit → Act → World → Prop} (hgd : o.guard = none) (s x : Operand)
    (ho : o.op = .call { callee := .builtin .append, args := #[s, x], argTypes := #[te, te] })
    (base : Nat) (v u : Value) (l m : List Value) (S : Nat → Prop) (hs : a.eval s = v) (hown : OwnX w e base v l) (hx : a.eval x = u) (hrd : RdV w S u m) (h1 : ∀ u ∈ m, u.oneCell' = true)
    (hlen : (l.length + m.length) * nb ≤ 140737488355328) (hnb : 0 < nb) (hbase : base ≤ w.heap.size)
    (h : ∀ v' w', OwnX w' e base v' (l ++ m) → w.grownBy w' v.ownBlock → (v'.ownBlock = v.ownBlock ∨ v'.ownBlock = some w.heap.size) → wpList Tryz.prog ops Q rest (a.put o.dst v') w') : wpList Tryz.prog ops Q (o :: rest) a w := by
  obtain ⟨i0, hi, hz0, hz1, hz2⟩ := info_parts hin
  obtain ⟨p, cap, rfl, hlc, hl47, hcm, hcn, hat⟩ := hrd
  have hle : l.length + m.length ≤ 140737488355328 := Nat.le_trans (Nat.le_mul_of_pos_right _ hnb) hlen
  cases p with
  | none =>
    have hm : m = [] := by
      apply List.eq_nil_of_length_eq_zero
      rcases Nat.eq_zero_or_pos m.length with h0 | h0
      · exact h0
      · obtain ⟨b, off, e, _⟩ := hat 0 _ (List.getElem?_eq_getElem h0)
        cases e
    subst hm
    have hc0 := hcn rfl
    subst hc0
    refine wpList_append_own_none hgd s x _ ho base e i0 1 hu hi v _ _ hs hown hx ?_
    exact h v w (by simpa using hown) ⟨rfl, rfl, rfl, Nat.le_refl _, fun _ _ _ => rfl⟩ (.inl rfl)
  | some ad =>
    have hnews : ∀ j u, m[j]? = some u → w.cell? (ad.add j) = some u := by
      intro j u hu
      obtain ⟨b, off, e, _, _, hc⟩ := hat j u hu
      obtain rfl := Option.some.inj e
      rw [Addr.add_mid, hc]
    refine wpList_append_own_at w hgd s x _ ho base e i0 z 1 nb hu hi hz0 hz1 hz2 hzc (by decide) v _ _ hs hown ad m.length cap m hx (by simp) hnews h1 (by unfold maxLen; omega) hlen hbase ?_
    intro v' w' hown' hg _ hat'
    refine h v' w' ?_ hg hat'
    unfold OwnX
    rw [List.length_append]
    exact hown'
end Go.Proofs.YtlbfgkocpjlamaaGreatDoor

/-
  A row of slices of bytes of the call's own: the row and its elements lie outside S, the elements outside the row.
-/
namespace Go.Proofs.YtlbfgkocpjlamaaGreatDoor
open Go.RowKit

def Ex (S : Nat → Prop) (v : Value) : Nat → Prop := fun j => S j ∨ v.ownBlock = some j
def RowW (w : World) (S : Nat → Prop) (base : Nat) (v : Value) (ls : List (List UInt8)) : Prop :=
  ∃ us : List Value, us.length = ls.length ∧ OwnX w 41 base v us ∧ (∀ k, v.ownBlock = some k → ¬ S k) ∧
    ∀ (k : Nat) (u : Value) (l : List UInt8), us[k]? = some u → ls[k]? = some l → RdV w (Ex S v) u (bs l)
section
variable {w w' : World} {S S' : Nat → Prop} {base : Nat} {v : Value} {ls : List (List UInt8)}
theorem RowW.nil (w : World) (S : Nat → Prop) (base : Nat) : RowW w S base (.slice none 0 0) [] := ⟨[], rfl, OwnX.nil _ _ _, (fun _ h => by cases h), (fun _ _ _ h => by simp at h)⟩
theorem RowW.own (h : RowW w S base v ls) : ∀ k, v.ownBlock = some k → base ≤ k ∧ k < w.heap.size ∧ ¬ S k := by
  obtain ⟨us, _, ho, hn, _⟩ := h
  exact fun k hk => ⟨(ho.lt k hk).1, (ho.lt k hk).2, hn k hk⟩
theorem RowW.shape (h : RowW w S base v ls) : ∃ p cap, v = .slice p ls.length cap ∧ ls.length ≤ cap ∧ cap ≤ 9223372036854775807 := by
  obtain ⟨us, hl, ho, _, _⟩ := h
  rw [← hl]
  exact ho.shape
/-- What changes blocks of S alone leaves the row; S may grow by new blocks. -/
theorem RowW.step (h : RowW w S base v ls) (hf : Fr S w w') (hS : ∀ k, S' k → S k ∨ w.heap.size ≤ k) : RowW w' S' base v ls := by
  have hown := h.own
  obtain ⟨us, hl, ho, hn, he⟩ := h
  refine ⟨us, hl, ho.fr hf hn, fun k hk hs => (hS k hs).elim (hn k hk) fun hle => by have := (hown k hk).2.1; omega, fun k u l hu hk => ?_⟩
  have h1 := he k u l hu hk
  exact h1.step (hf.mono fun j _ hj => .inl hj) fun j hj hs => hs.elim (fun hs => .inl ((hS j hs).resolve_right (by omega))) .inr
theorem RowW.below (h : RowW w S base v ls) (hb : Below w.heap.size w w') : RowW w' S base v ls := h.step (Fr.of_new hb S) fun _ hs => .inl hs
theorem RowW.rdw (h : RowW w S base v ls) (hl : ls.length ≤ 140737488355328) : RdW w S v ls := by
  obtain ⟨us, hlen, ho, hn, he⟩ := h
  exact ⟨us, hlen, ho.rdv (by omega) hn, fun k u l hu hk => (he k u l hu hk).step (Fr.refl _ _) fun j _ hs => .inl hs⟩
theorem RowW.rdl (h : RowW w S base v ls) (hl : ls.length ≤ 140737488355328) : RdL w w.heap.size v ls := by
  obtain ⟨us, hlen, ⟨p, cap, e, h1, h2, h3, _, h5⟩, he⟩ := h.rdw hl
  refine ⟨p, cap, by rw [← hlen]; exact e, by rw [← hlen]; exact h1, hl, h3, fun k l hk => ?_⟩
  have hkl : k < us.length := by
    rw [hlen]
    exact (List.getElem?_eq_some_iff.1 hk).1
  obtain ⟨b, off, e2, hb, _, hc⟩ := h5 k _ (List.getElem?_eq_getElem hkl)
  exact ⟨b, off, us[k], e2, hb, hc, (he k _ l (List.getElem?_eq_getElem hkl) hk).rd⟩
theorem RowW.more {base' : Nat} (h : RowW w S base v ls) (hb : base' ≤ base) : RowW w S base' v ls := by
  obtain ⟨us, hl, ho, hn, he⟩ := h
  exact ⟨us, hl, ho.more hb, hn, he⟩
end
theorem RdW.mono {w : World} {S T : Nat → Prop} {v : Value} {ls : List (List UInt8)} (h : RdW w S v ls) (hT : ∀ k, k < w.heap.size → T k → S k) : RdW w T v ls := h.step (Fr.refl _ _) hT
theorem RdW.cells {w : World} {S : Nat → Prop} {u : Value} {ms : List (List UInt8)} (h : RdW w S u ms) : ∃ us, us.length = ms.length ∧ RdV w S u us ∧ (∀ (k : Nat) (x : Value) (l : List UInt8), us[k]? = some x → ms[k]? = some l → RdV w S x (bs l)) ∧ ∀ x ∈ us, x.oneCell' = true := by
  obtain ⟨us, h1, h2, h3⟩ := h
  refine ⟨us, h1, h2, h3, fun x hx => ?_⟩
  obtain ⟨k, hk, rfl⟩ := List.mem_iff_getElem.1 hx
  obtain ⟨p, cap, e, _⟩ := h3 k _ _ (List.getElem?_eq_getElem hk) (List.getElem?_eq_getElem (by omega))
  rw [e]
  rfl

theorem wpList_append_w {w : World} {ops : Array Oper} {rest : List Oper} {o : Oper} {a : Act} {Q : Exit → Act → World → Prop} (hgd : o.guard = none) (s x : Operand)
    (ho : o.op = .call { callee := .builtin .append, args := #[s, x], argTypes := #[31, 31] })
    (S : Nat → Prop) (base : Nat) (v u : Value) (ls ms : List (List UInt8)) (hs : a.eval s = v) (hown : RowW w S base v ls) (hx : a.eval x = u) (hrd : RdW w (Ex S v) u ms) (hS : ¬ S w.heap.size)
    (hlen : (ls.length + ms.length) * 24 ≤ 140737488355328) (hbase : base ≤ w.heap.size)
    (h : ∀ v' w', RowW w' S base v' (ls ++ ms) → Below base w w' → w.grownBy w' v.ownBlock → wpList Tryz.prog ops Q rest (a.put o.dst v') w') : wpList Tryz.prog ops Q (o :: rest) a w := by
  have hob := hown.own
  obtain ⟨us, hl, hox, hn, he⟩ := hown
  obtain ⟨xs, hxl, hxr, hxe, hx1⟩ := hrd.cells
  refine wpList_append_x Tryz.underlying31 infoBytes rfl hgd s x ho base v u us xs (Ex S v) hs hox hx hxr hx1 (by rw [hl, hxl]; exact hlen) (by omega) hbase ?_
  intro v' w' hown' hg hat
  have hblk : ∀ k, v'.ownBlock = some k → v.ownBlock = some k ∨ k = w.heap.size := fun k hk => by
    rcases hat with e | e
    · exact .inl (e ▸ hk)
    · rw [e] at hk
      exact .inr (by simpa using hk.symm)
  refine h v' w' ⟨us ++ xs, by simp [hl, hxl], hown', fun k hk hs2 => ?_, fun k y m hy hm => ?_⟩ ((Below.refl _ _).grown hg hbase fun k hk => (hob k hk).1) hg
  · rcases hblk k hk with e | rfl
    · exact hn k e hs2
    · exact hS hs2
  · have key : RdV w (Ex S v) y (bs m) := by
      rcases Nat.lt_or_ge k us.length with hk | hk
      · rw [List.getElem?_append_left hk] at hy
        rw [List.getElem?_append_left (by omega)] at hm
        exact he k y m hy hm
      · rw [List.getElem?_append_right hk] at hy
        rw [List.getElem?_append_right (by omega)] at hm
        rw [← hl] at hm
        exact hxe _ y m hy hm
    refine key.step (Fr.grown hg fun j hj => .inr hj) fun j hj hs2 => ?_
    rcases hs2 with hs2 | hs2
    · exact .inl hs2
    · rcases hblk j hs2 with e | rfl
      · exact .inr e
      · omega

set_option maxRecDepth 100000 in
set_option maxHeartbeats 1000000 in
/-- The payloads lie in new blocks. -/
theorem readFrames_new (v : Value) (l : List UInt8) (B : Nat) (w : World) (h : Rd w B v l) (hB : B ≤ w.heap.size) (ht : Tabs w) (hl40 : l.length ≤ 1000000000000) :
    Calls Tryz.prog 39 #[v] w fun e w' =>
      ∃ v', e = .returned (.tuple #[v', .int .i64 ((rdFrames l).2.1 : Int), .int .i64 ((rdFrames l).2.2 : Int)]) ∧ RowW w' (fun k => k < w.heap.size) w.heap.size v' (rdFrames l).1 ∧ Below w.heap.size w w' := by
  have HR := Lib.hid h
  have HT := Lib.hid ht
  clear ht
  obtain ⟨p, cap, rfl, hlc, hl47, hcm, hat⟩ := h.form
  clear h hat
  go_enter Tryz.func39, Tryz.ntmps39
  go_wp2
  go_loopw [5, 6] (fun t i wr => ∃ (k : Nat) (ps : List (List UInt8)), i = .int .i64 (k : Int) ∧ k ≤ l.length ∧ ps.length ≤ k ∧ RowW wr (fun k => k < w.heap.size) w.heap.size t ps ∧ Below w.heap.size w wr ∧
    rdFrames l = (ps ++ (rdFrames (l.drop k)).1, k + (rdFrames (l.drop k)).2.1, (rdFrames (l.drop k)).2.2)) (fun _ i _ => l.length - (intOf i).toNat)
  case atStart => exact ⟨0, [], rfl, by omega, by simp, RowW.nil _ _ _, Below.refl _ _, by simp⟩
  case round =>
    obtain ⟨k, ps, rfl, hk, hpk, hown, hbw, hrd⟩ := hrel
    have hsz := hbw.size
    have HO := Lib.hid hown
    have HB := Lib.hid hbw
    have HD := Lib.hid hrd
    clear hown hbw hrd
    by_cases hlt : k < l.length
    · obtain ⟨p3, cap3, htl, hsl3⟩ := tail_run (n := k) HR.out (by omega)
      have hdl : (l.drop k).length = l.length - k := List.length_drop
      have hne0 : l.drop k ≠ [] := by
        intro e
        rw [e] at hdl
        simp at hdl
        omega
      have HNE := Lib.hid hne0
      have HTl := Lib.hid (htl.under HB.out hB)
      have HDL := Lib.hid hdl
      clear htl hdl hne0
      go_wp2_with fail
      refine (readFrame_any _ (l.drop k) B _ (by exact HTl.out) (by omega) (HT.out.under HB.out HT.out.two)).mono ?_
      rcases rdFrame_form (l.drop k) with ⟨q, n, hr, h5, hn, hq, hq2⟩ | ⟨e, hr, he⟩
      · rw [HDL.out] at hn
        rintro e WX ⟨vx, rfl, hrx, hnew, hbx⟩
        have HO1 := Lib.hid (HO.out.below hbx)
        have HBX := Lib.hid (HB.out.trans (hbx.mono hsz))
        have hvx : ∃ p cap, vx = .slice p q.length cap := by
          rw [hr] at hrx
          exact bytes_val hrx
        have HX0 : Hid (∀ t : Value, (∀ k, t.ownBlock = some k → k < wr.heap.size) → RdV WX (Ex (fun k => k < w.heap.size) t) vx (bs q)) := Lib.hid (fun t hto => by
          rw [hr] at hrx
          exact RdV.of_out hrx fun _ j hj hs => hs.elim (fun hs => by have := hnew j hj; omega) fun hs => by have := hnew j hj; have := hto j hs; omega)
        obtain ⟨px, cx, rfl⟩ := hvx
        have HX : Hid (∀ t : Value, (∀ k, t.ownBlock = some k → k < wr.heap.size) → RdW (WX.alloc (.cells #[.slice px q.length cx] 41)) (Ex (fun k => k < w.heap.size) t) (.slice (some ⟨WX.heap.size, 0, none⟩) 1 1) [q]) := Lib.hid (fun t hto => by
          have h1 := HX0.out t hto
          have hz := hbx.size
          refine ⟨[.slice px q.length cx], rfl, RdV.one WX _ _ _ (fun hs => ?_), fun j y m hy hm => ?_⟩
          · rcases hs with hs | hs
            · have hs : WX.heap.size < w.heap.size := hs
              omega
            · have := hto _ hs
              omega
          · have hj : j = 0 := by
              have := (List.getElem?_eq_some_iff.1 hy).1
              simpa using this
            subst hj
            obtain rfl : Value.slice px q.length cx = y := by simpa using hy
            obtain rfl : q = m := by simpa using hm
            exact h1.same (Fr.of_new ((Below.refl _ _).alloc (Nat.le_refl _) _) _))
        have hown : ∀ t : Value, RowW wr (fun k => k < w.heap.size) w.heap.size t ps → ∀ k, t.ownBlock = some k → k < wr.heap.size := fun t ht k hk => (ht.own k hk).2.1
        have HOW := Lib.hid hown
        have hzx := hbx.size
        clear hrx hnew hbx hown
        rw [hr]
        have HS := Lib.hid (show rdFrames l = (ps ++ [q] ++ (rdFrames (l.drop (k + n))).1, k + n + (rdFrames (l.drop (k + n))).2.1, (rdFrames (l.drop (k + n))).2.2) by
          rw [HD.out, rdFrames_ok _ q n HNE.out hr (by omega), List.drop_drop]
          simp [Nat.add_assoc])
        clear hr
        go_wp2_with (at_builtin; refine wpList_append_w rfl _ _ rfl (fun k => k < w.heap.size) w.heap.size _ _ ps [q] rfl (HO1.out.below (below_alloc _ _)) rfl (HX.out _ (HOW.out _ HO.out)) (by simp; omega) (by simp; omega) (by simp; omega) ?_; intro v4 w4 hown4 hb4 _)
        have HB4 := Lib.hid (HBX.out.trans (((below_alloc WX _).mono HBX.out.size).trans hb4))
        have HO4 := Lib.hid hown4
        clear hown4 hb4
        go_roundw
        case rel => exact ⟨k + n, ps ++ [q], by go_num, by omega, by simp; omega, HO4.out, HB4.out, HS.out⟩
        case measure => simp [intOf]; omega
      · rintro e WX ⟨vx, rfl, hrx, hnew, hbx⟩
        have HFIN := Lib.hid (HO.out.below hbx)
        have HBF := Lib.hid (HB.out.trans (hbx.mono hsz))
        clear hrx hnew hbx
        rw [hr]
        have HE := Lib.hid (show rdFrames l = (ps, k, e) by rw [HD.out, rdFrames_err _ e HNE.out hr (by omega)]; simp)
        have e0 : ((e : Int) != 0) = true := by rw [bne_iff_ne]; omega
        clear hr he
        go_wp2_with fail
        go_ret3
        exact ⟨_, ret3s HE.out rfl rfl, by rw [HE.out]; exact HFIN.out, HBF.out⟩
    · obtain rfl : k = l.length := by omega
      have HE := Lib.hid (show rdFrames l = (ps, l.length, 0) by rw [HD.out, List.drop_length, rdFrames_nil]; simp)
      go_wp2_with fail
      go_ret3
      exact ⟨_, ret3s HE.out rfl rfl, by rw [HE.out]; exact HO.out, HB.out⟩
end Go.Proofs.YtlbfgkocpjlamaaGreatDoor
