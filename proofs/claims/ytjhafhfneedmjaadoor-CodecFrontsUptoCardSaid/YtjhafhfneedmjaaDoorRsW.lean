/-
  The walks over codec.ReadFrames and glacierref1.ReadFrames: the frames behind one another, and the error behind them.
-/
import Derived.Test.YtjhafhfneedmjaaDoorRfW
import Derived.Test.YtjhafhfneedmjaaDoorByW
namespace Go.Proofs.YtjhafhfneedmjaaDoor
open Go.RowKit

theorem infoBytes : (Tryd.prog.info? 28).map (fun i => (i.zero, i.size, i.bytes)) = some (some (.slice none 0 0), 1, 24) := by kernel_rfl

/-- A row of slices of the call's own; each element reads as its bytes, which lie in other blocks than the row. -/
def OwnL (w : World) (base : Nat) (v : Value) (ls : List (List UInt8)) : Prop :=
  ∃ vs : List Value, vs.length = ls.length ∧ w.ownsRow base 28 1 v vs.length vs ∧
    ∀ (k : Nat) (u : Value) (l : List UInt8), vs[k]? = some u → ls[k]? = some l → Rd w w.heap.size u l ∧ (0 < l.length → ∀ b, v.ownBlock = some b → u.ownBlock ≠ some b)
section
variable {w w' : World} {base : Nat} {v : Value} {ls : List (List UInt8)}
theorem OwnL.none_ (w : World) (base : Nat) : OwnL w base (.slice none 0 0) [] := ⟨[], rfl, World.ownsRow_nil w base 28 1, fun k u l h => by simp at h⟩
theorem OwnL.after (h : OwnL w base v ls) (hb : Below w.heap.size w w') : OwnL w' base v ls := by
  obtain ⟨vs, hl, hown, hel⟩ := h
  refine ⟨vs, hl, ⟨hown.1, ?_⟩, fun k u l hu hk => ?_⟩
  · rcases hown.2 with hn | ⟨g, cap, cur, e, h1, h2, h3⟩
    · exact .inl hn
    · have hlt : g < w.heap.size := by
        rcases Nat.lt_or_ge g w.heap.size with hlt | hge
        · exact hlt
        · rw [Array.getElem?_eq_none hge] at h2; cases h2
      exact .inr ⟨g, cap, cur, e, h1, (hb.block g hlt).trans h2, h3⟩
  · have := hel k u l hu hk
    exact ⟨(this.1.under hb (Nat.le_refl _)).more hb.size, this.2⟩
theorem rd_oneCell {B : Nat} {u : Value} {l : List UInt8} (h : Rd w B u l) : u.oneCell' = true := by
  obtain ⟨p, cap, rfl, _⟩ := h
  rfl
/-- Whatever only turns the row leaves an element's bytes alone. -/
theorem Rd.grown {B : Nat} {u : Value} {l : List UInt8} {row : Option Nat} (h : Rd w B u l) (hB : B ≤ w.heap.size) (hg : w.grownBy w' row) (hne : 0 < l.length → ∀ b, row = some b → u.ownBlock ≠ some b) : Rd w' B u l := by
  obtain ⟨p, cap, e, h1, h2, h3⟩ := h
  refine ⟨p, cap, e, h1, h2, fun h0 => ?_⟩
  obtain ⟨b, off, ep, hb, hc⟩ := h3 h0
  refine ⟨b, off, ep, hb, fun i hi => ?_⟩
  rw [← hc i hi]
  refine World.cell?_of_block (hg.block b (by omega) (fun e2 => hne h0 b e2.symm ?_))
  rw [e, ep]
  rfl
theorem OwnL.rdl (h : OwnL w base v ls) (hl : ls.length ≤ 140737488355328) : RdL w w.heap.size v ls := by
  obtain ⟨vs, hlen, hown, hel⟩ := h
  rcases hown.2 with ⟨rfl, h0⟩ | ⟨g, cap, cur, rfl, hb, hg, hn, hc, hsz, ht⟩
  · have : ls = [] := List.eq_nil_of_length_eq_zero (by omega)
    subst this
    exact RdL.none_ _ _
  · have hlt : g < w.heap.size := by
      rcases Nat.lt_or_ge g w.heap.size with hlt | hge
      · exact hlt
      · rw [Array.getElem?_eq_none hge] at hg; cases hg
    refine ⟨some ⟨g, 0, none⟩, cap, by rw [hlen], by omega, hl, hc, fun k l hk => ?_⟩
    have hkl : k < ls.length := (List.getElem?_eq_some_iff.1 hk).1
    have hv : vs[k]? = some vs[k] := List.getElem?_eq_getElem (by omega)
    refine ⟨g, 0, vs[k], rfl, hlt, ?_, (hel k _ l hv hk).1⟩
    rw [Nat.zero_add, cell_of_row _ _ _ _ _ _ hg]
    have h1 : cur.toList[k]? = some vs[k] := by
      rw [← hv]
      conv => rhs; rw [← ht]
      rw [List.getElem?_take, if_pos (by omega)]
    simpa using h1
end

theorem fresh_ne {w : World} {base : Nat} {v u : Value} {ls : List (List UInt8)} (h : OwnL w base v ls) (hu : ∀ k, u.ownBlock = some k → w.heap.size ≤ k) (n : Nat) : 0 < n → ∀ b, v.ownBlock = some b → u.ownBlock ≠ some b := by
  intro _ b hb hb2
  have h1 := hu b hb2
  obtain ⟨vs, _, hrow, _⟩ := h
  have h2 := (World.ownsRow.lt hrow b hb).2
  omega
theorem old_ne {w : World} {base B : Nat} {v u : Value} {ls : List (List UInt8)} {l : List UInt8} (h : OwnL w base v ls) (hu : Rd w B u l) (hB : B ≤ base) : 0 < l.length → ∀ b, v.ownBlock = some b → u.ownBlock ≠ some b := by
  intro h0 b hb hb2
  obtain ⟨vs, _, hrow, _⟩ := h
  have h2 := (World.ownsRow.lt hrow b hb).1
  obtain ⟨p, cap, rfl, _, _, hc⟩ := hu
  obtain ⟨b2, off, rfl, hlt, _⟩ := hc h0
  injection hb2 with hb2
  have hb3 : b2 = b := hb2
  omega
theorem wpList_append_one {w : World} {ops : Array Oper} {rest : List Oper} {o : Oper} {a : Act} {Q : Exit → Act → World → Prop} (hgd : o.guard = none) (s x : Operand)
    (ho : o.op = .call { callee := .builtin .append, args := #[s, x], argTypes := #[22, 22] })
    (base g : Nat) (v u : Value) (l : List UInt8) (ls : List (List UInt8)) (hs : a.eval s = v) (hown : OwnL w base v ls) (hx : a.eval x = .slice (some ⟨g, 0, none⟩) 1 1) (hc : w.cell? ⟨g, 0, none⟩ = some u)
    (hu : Rd w w.heap.size u l) (hne : 0 < l.length → ∀ b, v.ownBlock = some b → u.ownBlock ≠ some b)
    (hlen : (ls.length + 1) * 24 ≤ 140737488355328) (hbase : base ≤ w.heap.size)
    (h : ∀ v' w', OwnL w' base v' (ls ++ [l]) → Below base w w' → wpList Tryd.prog ops Q rest (a.put o.dst v') w') : wpList Tryd.prog ops Q (o :: rest) a w := by
  obtain ⟨i0, hi, hz0, hz1, hz2⟩ := info_parts infoBytes
  obtain ⟨vs, hl, hrow, hel⟩ := hown
  refine wpList_append_own_at w hgd s x _ ho base 28 i0 (.slice none 0 0) 1 24 Tryd.underlying22 hi hz0 hz1 hz2 rfl (by decide) v _ vs hs hrow ⟨g, 0, none⟩ 1 1 [u] hx rfl ?_ (by intro y hy; simp at hy; subst hy; exact rd_oneCell hu) (by unfold maxLen; omega) (by rw [hl]; omega) hbase ?_
  · intro j y hy
    obtain rfl : j = 0 := by
      have := (List.getElem?_eq_some_iff.1 hy).1
      simp at this
      omega
    obtain rfl : u = y := by simpa using hy
    rw [Addr.add_mid]
    exact hc
  · intro v' w' hown' hg _ hat
    refine h v' w' ⟨vs ++ [u], by simp [hl], by simpa using hown', fun k y m hy hm => ?_⟩ ((Below.refl _ _).grown hg hbase (fun k hk => (World.ownsRow.lt hrow k hk).1))
    have key : ∀ (y : Value) (m : List UInt8), Rd w w.heap.size y m → (0 < m.length → ∀ b, v.ownBlock = some b → y.ownBlock ≠ some b) → Rd w' w'.heap.size y m ∧ (0 < m.length → ∀ b, v'.ownBlock = some b → y.ownBlock ≠ some b) := by
      intro y m hr hn
      refine ⟨(hr.grown (Nat.le_refl _) hg hn).more hg.size, fun h0 b hb hyb => ?_⟩
      rcases hat with e | e
      · exact hn h0 b (e ▸ hb) hyb
      · rw [e] at hb
        injection hb with hb
        obtain ⟨p, cap, rfl, _, _, hcells⟩ := hr
        obtain ⟨b2, off, rfl, hlt, _⟩ := hcells h0
        injection hyb with hyb
        have hyb2 : b2 = b := hyb
        omega
    rcases Nat.lt_or_ge k vs.length with hk | hk
    · rw [List.getElem?_append_left hk] at hy
      rw [List.getElem?_append_left (by omega)] at hm
      have := hel k y m hy hm
      exact key y m this.1 this.2
    · have hkl : k < (vs ++ [u]).length := (List.getElem?_eq_some_iff.1 hy).1
      obtain rfl : k = vs.length := by simp at hkl; omega
      obtain rfl : u = y := by simpa using hy
      obtain rfl : l = m := by
        rw [hl] at hm
        simpa using hm
      exact key u l hu hne

theorem ret3s {v : Value} {N E : Int} {r : List (List UInt8) × Nat × Nat} {p : List (List UInt8)} {n e : Nat} (h : r = (p, n, e)) (hN : N = (n : Int)) (hE : E = (e : Int)) :
    Ending.returned (.tuple #[v, .int .i64 N, .int .i64 E]) = .returned (.tuple #[v, .int .i64 (r.2.1 : Int), .int .i64 (r.2.2 : Int)]) := by rw [h, hN, hE]

set_option maxRecDepth 100000 in
set_option maxHeartbeats 1000000 in
theorem readFrames_any (v : Value) (l : List UInt8) (B : Nat) (w : World) (h : Rd w B v l) (hB : B ≤ w.heap.size) (ht : Tabs w) (hl40 : l.length ≤ 1000000000000) :
    Calls Tryd.prog 23 #[v] w fun e w' =>
      ∃ v', e = .returned (.tuple #[v', .int .i64 ((rdFrames l).2.1 : Int), .int .i64 ((rdFrames l).2.2 : Int)]) ∧ RdL w' w'.heap.size v' (rdFrames l).1 ∧ Below w.heap.size w w' := by
  have HR := Lib.hid h
  have HT := Lib.hid ht
  clear ht
  obtain ⟨p, cap, rfl, hlc, hl47, hcm, hat⟩ := h.form
  clear h hat
  go_enter Tryd.func23, Tryd.ntmps23
  go_wp2
  go_loopw [5, 6] (fun t i wr => ∃ (k : Nat) (ps : List (List UInt8)), i = .int .i64 (k : Int) ∧ k ≤ l.length ∧ ps.length ≤ k ∧ OwnL wr w.heap.size t ps ∧ Below w.heap.size w wr ∧
    rdFrames l = (ps ++ (rdFrames (l.drop k)).1, k + (rdFrames (l.drop k)).2.1, (rdFrames (l.drop k)).2.2)) (fun _ i _ => l.length - (intOf i).toNat)
  case atStart => exact ⟨0, [], rfl, by omega, by simp, OwnL.none_ _ _, Below.refl _ _, by simp⟩
  case round =>
    obtain ⟨k, ps, rfl, hk, hpk, hown, hbw, hrd⟩ := hrel
    have hsz := hbw.size
    have HO := Lib.hid hown
    have HB := Lib.hid hbw
    have HD := Lib.hid hrd
    clear hown hbw hrd
    by_cases hlt : k < l.length
    · obtain ⟨p3, cap3, htl, hsl3⟩ := tail_run (n := k) HR.out (by omega)
      have hdl : (l.drop k).length = l.length - k := List.length_drop
      have hne0 : l.drop k ≠ [] := by
        intro e
        rw [e] at hdl
        simp at hdl
        omega
      have HNE := Lib.hid hne0
      have HTl := Lib.hid (htl.under HB.out hB)
      have HDL := Lib.hid hdl
      clear htl hdl hne0
      go_wp2_with fail
      refine (readFrame_any _ (l.drop k) B _ (by exact HTl.out) (by omega) (HT.out.under HB.out HT.out.two)).mono ?_
      rcases rdFrame_form (l.drop k) with ⟨q, n, hr, h5, hn, hq, hq2⟩ | ⟨e, hr, he⟩
      · rw [HDL.out] at hn
        rintro e WX ⟨vx, rfl, hrx, hnew, hbx⟩
        have HO1 := Lib.hid (HO.out.after hbx)
        have HBX := Lib.hid (HB.out.trans (hbx.mono hsz))
        have HX := Lib.hid (show Rd (WX.alloc (.cells #[vx] 28)) (WX.alloc (.cells #[vx] 28)).heap.size vx q by
          rw [hr] at hrx
          exact (hrx.under (below_alloc WX _) (Nat.le_refl _)).more (by simp))
        have HNX := Lib.hid (fresh_ne HO.out hnew q.length)
        have hvx : ∃ p cap, vx = .slice p q.length cap := by
          rw [hr] at hrx
          exact bytes_val hrx
        obtain ⟨px, cx, rfl⟩ := hvx
        clear hrx hnew hbx
        rw [hr]
        have HS := Lib.hid (show rdFrames l = (ps ++ [q] ++ (rdFrames (l.drop (k + n))).1, k + n + (rdFrames (l.drop (k + n))).2.1, (rdFrames (l.drop (k + n))).2.2) by
          rw [HD.out, rdFrames_ok _ q n HNE.out hr (by omega), List.drop_drop]
          simp [Nat.add_assoc])
        clear hr
        go_wp2_with (at_builtin; refine wpList_append_one rfl _ _ rfl w.heap.size WX.heap.size _ (.slice px q.length cx) q ps rfl (HO1.out.after (below_alloc _ _)) rfl (by rw [cell_of_row _ _ _ _ _ _ (heap_alloc_new WX (.cells #[.slice px q.length cx] 28))]; rfl) (HX.out) HNX.out (by omega) (by have := HBX.out.size; simp; omega) ?_; intro v4 w4 hown4 hb4)
        have HB4 := Lib.hid (HBX.out.trans (((below_alloc WX _).mono HBX.out.size).trans hb4))
        have HO4 := Lib.hid hown4
        clear hown4 hb4
        go_roundw
        case rel => exact ⟨k + n, ps ++ [q], by go_num, by omega, by simp; omega, HO4.out, HB4.out, HS.out⟩
        case measure => simp [intOf]; omega
      · rintro e WX ⟨vx, rfl, hrx, hnew, hbx⟩
        have HFIN := Lib.hid (HO.out.after hbx)
        have HBF := Lib.hid (HB.out.trans (hbx.mono hsz))
        clear hrx hnew hbx
        rw [hr]
        have HE := Lib.hid (show rdFrames l = (ps, k, e) by rw [HD.out, rdFrames_err _ e HNE.out hr (by omega)]; simp)
        have e0 : ((e : Int) != 0) = true := by rw [bne_iff_ne]; omega
        clear hr he
        go_wp2_with fail
        go_ret3
        exact ⟨_, ret3s HE.out rfl rfl, by rw [HE.out]; exact HFIN.out.rdl (by omega), HBF.out⟩
    · obtain rfl : k = l.length := by omega
      have HE := Lib.hid (show rdFrames l = (ps, l.length, 0) by rw [HD.out, List.drop_length, rdFrames_nil]; simp)
      go_wp2_with fail
      go_ret3
      exact ⟨_, ret3s HE.out rfl rfl, by rw [HE.out]; exact HO.out.rdl (by omega), HB.out⟩

set_option maxRecDepth 100000 in
set_option maxHeartbeats 1000000 in
theorem refReadFrames_any (v : Value) (l : List UInt8) (B : Nat) (w : World) (h : Rd w B v l) (hB : B ≤ w.heap.size) (hl40 : l.length ≤ 1000000000000) :
    Calls Tryd.prog 24 #[v] w fun e w' =>
      ∃ v', e = .returned (.tuple #[v', .int .i64 ((rdFrames l).2.1 : Int), .int .i64 ((rdFrames l).2.2 : Int)]) ∧ RdL w' w'.heap.size v' (rdFrames l).1 ∧ Below w.heap.size w w' := by
  have HR := Lib.hid h
  obtain ⟨p, cap, rfl, hlc, hl47, hcm, hat⟩ := h.form
  clear h hat
  go_enter Tryd.func24, Tryd.ntmps24
  go_wp2
  go_loopw [5, 6] (fun t i wr => ∃ (k : Nat) (ps : List (List UInt8)), i = .int .i64 (k : Int) ∧ k ≤ l.length ∧ ps.length ≤ k ∧ OwnL wr w.heap.size t ps ∧ Below w.heap.size w wr ∧
    rdFrames l = (ps ++ (rdFrames (l.drop k)).1, k + (rdFrames (l.drop k)).2.1, (rdFrames (l.drop k)).2.2)) (fun _ i _ => l.length - (intOf i).toNat)
  case atStart => exact ⟨0, [], rfl, by omega, by simp, OwnL.none_ _ _, Below.refl _ _, by simp⟩
  case round =>
    obtain ⟨k, ps, rfl, hk, hpk, hown, hbw, hrd⟩ := hrel
    have hsz := hbw.size
    have HO := Lib.hid hown
    have HB := Lib.hid hbw
    have HD := Lib.hid hrd
    clear hown hbw hrd
    by_cases hlt : k < l.length
    · obtain ⟨p3, cap3, htl, hsl3⟩ := tail_run (n := k) HR.out (by omega)
      have hdl : (l.drop k).length = l.length - k := List.length_drop
      have hne0 : l.drop k ≠ [] := by
        intro e
        rw [e] at hdl
        simp at hdl
        omega
      have HNE := Lib.hid hne0
      have HTl := Lib.hid (htl.under HB.out hB)
      have HDL := Lib.hid hdl
      clear htl hdl hne0
      go_wp2_with fail
      refine (refReadFrame_any _ (l.drop k) B _ (by exact HTl.out)).mono ?_
      rcases rdFrame_form (l.drop k) with ⟨q, n, hr, h5, hn, hq, hq2⟩ | ⟨e, hr, he⟩
      · rw [HDL.out] at hn
        rintro e WX ⟨vx, rfl, hrx, m, hWX⟩
        have hbx : Below wr.heap.size wr WX := hWX ▸ below_drewN (Below.refl _ _) m
        have hry : Rd WX B vx q := by
          rw [hr] at hrx
          exact hrx.under hbx (by omega)
        have HO1 := Lib.hid (HO.out.after hbx)
        have HBX := Lib.hid (HB.out.trans (hbx.mono hsz))
        have HX := Lib.hid (show Rd (WX.alloc (.cells #[vx] 28)) (WX.alloc (.cells #[vx] 28)).heap.size vx q from
          (hry.under (below_alloc WX _) (by have := HBX.out.size; omega)).more (by have := HBX.out.size; simp; omega))
        have HNX := Lib.hid (old_ne HO1.out hry hB)
        have hvx : ∃ p cap, vx = .slice p q.length cap := by
          rw [hr] at hrx
          exact bytes_val hrx
        obtain ⟨px, cx, rfl⟩ := hvx
        clear hrx hry hbx hWX
        rw [hr]
        have HS := Lib.hid (show rdFrames l = (ps ++ [q] ++ (rdFrames (l.drop (k + n))).1, k + n + (rdFrames (l.drop (k + n))).2.1, (rdFrames (l.drop (k + n))).2.2) by
          rw [HD.out, rdFrames_ok _ q n HNE.out hr (by omega), List.drop_drop]
          simp [Nat.add_assoc])
        clear hr
        go_wp2_with (at_builtin; refine wpList_append_one rfl _ _ rfl w.heap.size WX.heap.size _ (.slice px q.length cx) q ps rfl (HO1.out.after (below_alloc _ _)) rfl (by rw [cell_of_row _ _ _ _ _ _ (heap_alloc_new WX (.cells #[.slice px q.length cx] 28))]; rfl) (HX.out) HNX.out (by omega) (by have := HBX.out.size; simp; omega) ?_; intro v4 w4 hown4 hb4)
        have HB4 := Lib.hid (HBX.out.trans (((below_alloc WX _).mono HBX.out.size).trans hb4))
        have HO4 := Lib.hid hown4
        clear hown4 hb4
        go_roundw
        case rel => exact ⟨k + n, ps ++ [q], by go_num, by omega, by simp; omega, HO4.out, HB4.out, HS.out⟩
        case measure => simp [intOf]; omega
      · rintro e WX ⟨vx, rfl, hrx, m, hWX⟩
        have hbx : Below wr.heap.size wr WX := hWX ▸ below_drewN (Below.refl _ _) m
        have HFIN := Lib.hid (HO.out.after hbx)
        have HBF := Lib.hid (HB.out.trans (hbx.mono hsz))
        clear hrx hbx hWX
        rw [hr]
        have HE := Lib.hid (show rdFrames l = (ps, k, e) by rw [HD.out, rdFrames_err _ e HNE.out hr (by omega)]; simp)
        have e0 : ((e : Int) != 0) = true := by rw [bne_iff_ne]; omega
        clear hr he
        go_wp2_with fail
        go_ret3
        exact ⟨_, ret3s HE.out rfl rfl, by rw [HE.out]; exact HFIN.out.rdl (by omega), HBF.out⟩
    · obtain rfl : k = l.length := by omega
      have HE := Lib.hid (show rdFrames l = (ps, l.length, 0) by rw [HD.out, List.drop_length, rdFrames_nil]; simp)
      go_wp2_with fail
      go_ret3
      exact ⟨_, ret3s HE.out rfl rfl, by rw [HE.out]; exact HO.out.rdl (by omega), HB.out⟩
end Go.Proofs.YtjhafhfneedmjaaDoor
