import Derived.Test.YteclnnjijfbfoaaMgJ
import Derived.Test.YteclnnjijfbfoaaMgZ
import Derived.Test.YteclnnjijfbfoaaEnH
import Derived.Test.YteclnnjijfbfoaaMhF
import Derived.Test.YteclnnjijfbfoaaMgH

/-
  A list in parts, told plainly: a part ends where the key does.
-/
namespace Go.Proofs.Yteclnnjijfbfoaa

def hdY (p : List Ent) : List UInt8 := match p with | [] => [] | e :: _ => e.key
def laY (p : List Ent) : List UInt8 := match p[p.length - 1]? with | some e => e.key | none => []
theorem hdY_at {p : List Ent} (h : 0 < p.length) : hdY p = (p[0]'h).key := by
  cases p with
  | nil => simp at h
  | cons e r => rfl
theorem laY_at {p : List Ent} (h : 0 < p.length) : laY p = (p[p.length - 1]'(by omega)).key := by
  unfold laY
  rw [List.getElem?_eq_getElem (by omega)]

/-- The parts of the first b of a list. -/
structure PrtS (l : List Ent) (b : Nat) (ps : List (List Ent)) : Prop where
  flat : ps.flatten = l.take b
  ne : ∀ p ∈ ps, p ≠ []
  sep : ∀ (k : Nat) (p q : List Ent), ps[k]? = some p → ps[k + 1]? = some q → Op.bytesLess (laY p) (hdY q) = true
  at_ : ∀ p : List Ent, ps[ps.length - 1]? = some p → ∀ hb : b < l.length, Op.bytesLess (laY p) (l[b]'hb).key = true
theorem PrtS.start (l : List Ent) : PrtS l 0 [] := ⟨rfl, fun p h => (by cases h), fun k p q h => by simp at h, fun p h => by simp at h⟩
theorem PrtS.len {l : List Ent} {b : Nat} {ps : List (List Ent)} (h : PrtS l b ps) : ps.length ≤ b := by
  have h1 := congrArg List.length h.flat
  rw [List.length_take] at h1
  have h2 : ∀ qs : List (List Ent), (∀ p ∈ qs, p ≠ []) → qs.length ≤ qs.flatten.length := fun qs => by
    induction qs with
    | nil => intro _; simp
    | cons p r ih =>
      intro hq
      have h3 := ih fun x hx => hq x (.tail _ hx)
      have h4 := List.length_pos_iff.2 (hq p (.head _))
      simp only [List.flatten_cons, List.length_append, List.length_cons]
      omega
  have h3 := h2 ps h.ne
  omega
theorem key_lt {l : List Ent} (hs : SrtE l) {i : Nat} (hi : i + 1 < l.length) (hk : (l[i].key == (l[i + 1]'hi).key) = false) : Op.bytesLess l[i].key (l[i + 1]'hi).key = true := by
  have h := (List.pairwise_iff_getElem.1 hs) i (i + 1) (by omega) hi (by omega)
  have hk2 : l[i].key ≠ l[i + 1].key := by simpa using hk
  unfold lessE at h
  simpa [hk2] using h
theorem PrtS.snoc {l : List Ent} {b i : Nat} {ps : List (List Ent)} (h : PrtS l b ps) (hbi : b ≤ i) (hi : i < l.length) (hc : ∀ h : i + 1 < l.length, Op.bytesLess l[i].key (l[i + 1]'h).key = true) :
    PrtS l (i + 1) (ps ++ [(l.drop b).take (i + 1 - b)]) := by
  have hn : ((l.drop b).take (i + 1 - b)).length = i + 1 - b := by rw [List.length_take, List.length_drop]; omega
  have hla : laY ((l.drop b).take (i + 1 - b)) = l[i].key := by
    rw [laY_at (by omega)]
    simp only [hn, List.getElem_take, List.getElem_drop]
    congr 2
    omega
  have hhd : hdY ((l.drop b).take (i + 1 - b)) = (l[b]'(by omega)).key := by
    rw [hdY_at (by omega)]
    simp only [List.getElem_take, List.getElem_drop, Nat.add_zero]
  refine ⟨?_, fun p hp => ?_, fun k p q h1 h2 => ?_, fun p h1 hb => ?_⟩
  · rw [List.flatten_append, h.flat, List.flatten_cons, List.flatten_nil, List.append_nil, ← List.take_add]
    congr 1
    omega
  · rcases List.mem_append.1 hp with hp | hp
    · exact h.ne p hp
    · obtain rfl := List.mem_singleton.1 hp
      intro e
      rw [e] at hn
      simp at hn
      omega
  · by_cases hk : k + 1 < ps.length
    · rw [List.getElem?_append_left (by omega)] at h1
      rw [List.getElem?_append_left hk] at h2
      exact h.sep k p q h1 h2
    · have hk2 : k + 1 = ps.length := by
        have := (List.getElem?_eq_some_iff.1 h2).1
        simp at this
        omega
      rw [List.getElem?_append_left (by omega)] at h1
      rw [List.getElem?_append_right (by omega), hk2, Nat.sub_self] at h2
      obtain rfl : (l.drop b).take (i + 1 - b) = q := by simpa using h2
      rw [hhd]
      exact h.at_ p (by rw [show ps.length - 1 = k by omega]; exact h1) (by omega)
  · rw [List.length_append, List.length_singleton, Nat.add_sub_cancel, List.getElem?_append_right (Nat.le_refl _), Nat.sub_self] at h1
    obtain rfl : (l.drop b).take (i + 1 - b) = p := by simpa using h1
    rw [hla]
    exact hc hb
end Go.Proofs.Yteclnnjijfbfoaa

/-
  The walks over compact.Size and compact.parts.
-/
namespace Go.Proofs.Yteclnnjijfbfoaa
open Go.RowKit

theorem belowA (w : World) (o : Obj) : Below w.heap.size w (w.alloc o) := (Below.refl _ _).alloc (Nat.le_refl _) _

set_option maxRecDepth 100000 in
set_option maxHeartbeats 1000000 in
theorem size_any (w : World) (e : Ent) (q : Option Addr) (c : Nat) (hf : FitE e) :
    Calls Try.prog 25 #[.agg #[.string ⟨e.key.toArray⟩, .int .u64 (e.seq : Int), .bool e.gone, .slice q e.val.length c]] w fun x w' => x = .returned (.int .i64 ((e.key.length + e.val.length + 16 : Nat) : Int)) ∧ Below w.heap.size w w' := by
  have h1 := hf.key
  have h2 := hf.val
  have hw1 : IntKind.i64.wrap ((e.key.length : Int) + (e.val.length : Int)) = (e.key.length : Int) + (e.val.length : Int) := IntWalk.i64_in _ (by omega)
  have hw2 : IntKind.i64.wrap ((e.key.length : Int) + (e.val.length : Int) + 16) = (e.key.length : Int) + (e.val.length : Int) + 16 := IntWalk.i64_in _ (by omega)
  clear h1 h2 hf
  go_enter Try.func25, Try.ntmps25
  go_wp2_with fail
  go_ret
  exact ⟨by simp, belowA _ _⟩

theorem slEns : SlT 23 26 1 24 :=
  ⟨Try.underlying23, by simp [Program.elem, Try.underlying23], fun _ => by kernel_rfl, ⟨.slice none 0 0, by kernel_rfl, rfl⟩, by omega, by omega⟩

/-- A part in memory: a row of the call's own, its values where they were. -/
def PartM (w0 w : World) (F : Nat → Prop) (u : Value) (p : List Ent) : Prop :=
  ∃ vs, vs.length = p.length ∧ w.ownsRow w0.heap.size 33 4 u p.length (cellsE p vs) ∧ ∀ (j : Nat) (e : Ent) (x : Value), p[j]? = some e → vs[j]? = some x → By w0 F x e.val
/-- The parts in memory. -/
structure PrtW (w0 w : World) (F : Nat → Prop) (v : Value) (ps : List (List Ent)) (us : List Value) : Prop where
  len : us.length = ps.length
  row : w.ownsRow w0.heap.size 26 1 v ps.length us
  one : ∀ x ∈ us, x.oneCell' = true
  each : ∀ (k : Nat) (p : List Ent) (u : Value), ps[k]? = some p → us[k]? = some u → PartM w0 w F u p
  bel : Below w0.heap.size w0 w
theorem PartM.keep {w0 w w' : World} {F : Nat → Prop} {u : Value} {p : List Ent} (h : PartM w0 w F u p) (hk : ∀ k, u.ownBlock = some k → w'.heap[k]? = w.heap[k]?) : PartM w0 w' F u p := by
  obtain ⟨vs, h1, h2, h3⟩ := h
  exact ⟨vs, h1, row_keep h2 hk, h3⟩
theorem PartM.heap {w0 w : World} {F : Nat → Prop} {u : Value} {p : List Ent} (h : PartM w0 w F u p) {k : Nat} (hk : u.ownBlock = some k) : (∃ cur, w.heap[k]? = some (.cells cur 33 (0, 0))) ∧ w0.heap.size ≤ k ∧ k < w.heap.size := by
  obtain ⟨vs, h1, h2, h3⟩ := h
  exact ⟨row_heap h2 hk, World.ownsRow.lt h2 k hk⟩
theorem PrtW.below {w0 w w' : World} {F : Nat → Prop} {v : Value} {ps : List (List Ent)} {us : List Value} (h : PrtW w0 w F v ps us) (hb : Below w.heap.size w w') : PrtW w0 w' F v ps us :=
  ⟨h.len, row_keep h.row fun k hk => hb.block k (row_lt h.row k hk), h.one, fun k p u h1 h2 => (h.each k p u h1 h2).keep fun j hj => hb.block j ((h.each k p u h1 h2).heap hj).2.2, h.bel.trans (hb.mono h.bel.size)⟩
theorem PrtW.snoc {w0 wr w1 W w3 : World} {F : Nat → Prop} {v v' u : Value} {ps : List (List Ent)} {us : List Value} {p : List Ent} (h : PrtW w0 wr F v ps us) (hb1 : Below wr.heap.size wr w1) (hp : PartM w0 w1 F u p) (hu : u.oneCell' = true) (hW : Below w1.heap.size w1 W)
    (hr : w3.ownsRow w0.heap.size 26 1 v' (ps.length + 1) (us ++ [u])) (hg : W.grownBy w3 v.ownBlock) : PrtW w0 w3 F v' (ps ++ [p]) (us ++ [u]) := by
  have h1 := h.below hb1
  have h2 := h1.below hW
  have hk : ∀ {x : Value} {q : List Ent}, PartM w0 W F x q → PartM w0 w3 F x q := fun {x q} hx => hx.keep fun j hj => hg.block j (hx.heap hj).2.2 (fun e => by
    obtain ⟨⟨cur, hc⟩, _⟩ := hx.heap hj
    obtain ⟨cur2, hc2⟩ := row_heap h2.row e.symm
    exact kind_ne hc hc2 (by decide) rfl)
  have hp2 : PartM w0 W F u p := hp.keep fun j hj => hW.block j (hp.heap hj).2.2
  refine ⟨by simp [h.len], by rw [List.length_append]; exact hr, fun x hx => ?_, fun k q x h3 h4 => ?_, h2.bel.grown hg h2.bel.size (fun j hj => (World.ownsRow.lt h2.row j hj).1)⟩
  · rcases List.mem_append.1 hx with hx | hx
    · exact h.one x hx
    · rw [List.mem_singleton.1 hx]; exact hu
  · by_cases hj : k < ps.length
    · rw [List.getElem?_append_left hj] at h3
      rw [List.getElem?_append_left (by rw [h.len]; exact hj)] at h4
      exact hk (h2.each k q x h3 h4)
    · rw [List.getElem?_append_right (by omega)] at h3
      rw [List.getElem?_append_right (by rw [h.len]; omega), h.len] at h4
      cases hq : k - ps.length with
      | zero =>
        rw [hq] at h3 h4
        obtain rfl : p = q := by simpa using h3
        obtain rfl : u = x := by simpa using h4
        exact hk hp2
      | succ n =>
        rw [hq] at h3
        simp at h3
/-- The parts, as a slice of slices. -/
theorem PrtW.els {w0 w : World} {F : Nat → Prop} {v : Value} {ps : List (List Ent)} {us : List Value} (h : PrtW w0 w F v ps us) (hn : ps.length ≤ 1048576) (hm : ∀ p ∈ ps, p.length ≤ 1048576) : Els w (fun k => F k ∨ w0.heap.size ≤ k) v ps := by
  refine ⟨us, h.len, Cl.of_own h.row (by omega) (fun k hk => .inr (row_low h.row k hk)) (by rw [h.len, Nat.mul_one]), fun k p u h1 h2 => ?_⟩
  obtain ⟨vs, h3, h4, h5⟩ := h.each k p u h1 h2
  have hpl := hm p (List.mem_of_getElem? h1)
  exact ⟨vs, h3, Cl.of_own h4 (by omega) (fun j hj => .inr (row_low h4 j hj)) (cellsE_length _ _ h3), fun j e x h6 h7 => ((h5 j e x h6 h7).mono fun _ _ hf => .inl hf).below h.bel⟩

set_option maxRecDepth 100000 in
set_option maxHeartbeats 4000000 in
theorem parts_any (w : World) (F : Nat → Prop) (v : Value) (l : List Ent) (size : Int) (h : En w F v l) (hs : SrtE l) (hfit : ∀ e ∈ l, FitE e) (hl : l.length ≤ 131072) :
    Calls Try.prog 20 #[v, .int .i64 size] w fun x w' => ∃ (ps : List (List Ent)) (us : List Value) (pv : Option Addr) (cv : Nat), x = .returned (.slice pv ps.length cv) ∧ PrtS l l.length ps ∧ PrtW w w' F (.slice pv ps.length cv) ps us := by
  obtain ⟨p, cap, rfl, hlc, hl47, hcm, _⟩ := h.form
  have HV := Lib.hid h
  have HS := Lib.hid hs
  have HFit := Lib.hid hfit
  clear h hs hfit
  go_enter Try.func20, Try.ntmps20
  go_wp2_with fail
  go_loopw [5, 6, 7, 12] (fun lv bv hv iv wr => ∃ (k b hs : Nat) (ps : List (List Ent)) (us : List Value) (pv : Option Addr) (cv : Nat), k ≤ l.length ∧ b ≤ k ∧ (k = l.length → b = k) ∧ hs ≤ k * 4398046511104 ∧ iv = .int .i64 (k : Int) ∧ bv = .int .i64 (b : Int) ∧ hv = .int .i64 (hs : Int) ∧ lv = .slice pv ps.length cv ∧ PrtS l b ps ∧ PrtW w wr F (.slice pv ps.length cv) ps us) (fun _ _ _ iv _ => l.length - (intOf iv).toNat)
  case atStart => exact ⟨0, 0, 0, [], [], none, 0, by omega, by omega, fun _ => rfl, by omega, rfl, rfl, rfl, rfl, PrtS.start l, ⟨rfl, World.ownsRow_nil _ _ _ _, fun x hx => (by cases hx), fun k p u h => by simp at h, Below.refl _ _⟩⟩
  case round =>
    obtain ⟨k, b, hs, ps, us, pv, cv, hk, hbk, hend, hhs, rfl, rfl, rfl, rfl, hps, hpw⟩ := hrel
    generalize wr = wz at *
    have HPs := Lib.hid hps
    have HPw := Lib.hid hpw
    have HEnd := Lib.hid hend
    have hbz := hpw.bel
    have hpl := hps.len
    clear hend
    by_cases hlt : k < l.length
    · obtain ⟨b1, off1, q1, c1, rfl, hbl, _, hV1, e0, e1, e2, e3⟩ := (HV.out.below hbz).at_ (List.getElem?_eq_getElem hlt)
      have hfx := HFit.out l[k] (List.getElem_mem hlt)
      obtain ⟨x, hx⟩ : ∃ x, l[k] = x := ⟨_, rfl⟩
      have HX := Lib.hid hx
      rw [hx] at e0 e1 e2 e3 hfx hV1
      have hz := heap_alloc_new wz (.cells #[.string ⟨#[]⟩, .int .u64 0, .bool false, .slice none 0 0] 33)
      obtain ⟨Y, hY⟩ : ∃ Y, wz.alloc (.cells #[.string ⟨#[]⟩, .int .u64 0, .bool false, .slice none 0 0] 33) = Y := ⟨_, rfl⟩
      have hbY : Below wz.heap.size wz Y := by rw [← hY]; exact belowA _ _
      rw [hY] at hz
      have f0 := frozen_of (i := 0) hz
      have f1 := frozen_of (i := 1) hz
      have f2 := frozen_of (i := 2) hz
      have f3 := frozen_of (i := 3) hz
      have u0 := cell_of (i := 0) hz rfl
      have u1 := cell_of (i := 1) hz rfl
      have u2 := cell_of (i := 2) hz rfl
      have u3 := cell_of (i := 3) hz rfl
      obtain ⟨X, hX⟩ : ∃ X, set4 Y wz.heap.size (.string ⟨x.key.toArray⟩) (.int .u64 (x.seq : Int)) (.bool x.gone) (.slice q1 x.val.length c1) = X := ⟨_, rfl⟩
      have hbX : Below wz.heap.size wz X := by rw [← hX]; exact hbY.trans ((set4_fr Y wz.heap.size _ _ _ _ (fun k => k = wz.heap.size) rfl).below hbY.size (fun k hk e => by omega))
      have hXa : X.heap[wz.heap.size]? = some (.cells #[.string ⟨x.key.toArray⟩, .int .u64 (x.seq : Int), .bool x.gone, .slice q1 x.val.length c1] 33 (0, 0)) := by rw [← hX]; exact set4_heap hz _ _ _ _
      unfold set4 at hX
      have HXa := Lib.hid hXa
      have HbX := Lib.hid hbX
      have x0 := cell_of (i := 0) hXa rfl
      have x1 := cell_of (i := 1) hXa rfl
      have x2 := cell_of (i := 2) hXa rfl
      have x3 := cell_of (i := 3) hXa rfl
      have HSz := Lib.hid (size_any X x q1 c1 hfx)
      have g1 := hfx.key
      have g2 := hfx.val
      clear hz hbY hXa hbX hfx hV1
      go_wp2_with fail
      refine HSz.out.mono ?_
      rintro y w2 ⟨rfl, hb2⟩
      have hX2 := (hb2.block _ (block_lt HXa.out)).trans HXa.out
      have HB2 : Hid (Below wz.heap.size wz w2) := Lib.hid (HbX.out.trans (hb2.mono HbX.out.size))
      have z0 := cell_of (i := 0) hX2 rfl
      obtain ⟨hs2, hhs2⟩ : ∃ hs2, hs + (x.key.length + x.val.length + 16) = hs2 := ⟨_, rfl⟩
      have hsum : (hs : Int) + ((x.key.length + x.val.length + 16 : Nat) : Int) = (hs2 : Int) := by omega
      have hhs3 : hs2 ≤ (k + 1) * 4398046511104 := by omega
      have hwr : IntKind.i64.wrap ((hs : Int) + ((x.key.length + x.val.length + 16 : Nat) : Int)) = (hs2 : Int) := by rw [IntWalk.i64_in _ (by omega)]; omega
      generalize x.key.length + x.val.length + 16 = xn at *
      clear hb2 hX2 x0 x1 x2 x3 e0 e1 e2 e3 f0 f1 f2 f3 u0 u1 u2 u3 hX hY hhs2 HSz
      have hways : ∃ ct : Bool, (k + 1 = l.length ∧ ct = true) ∨ (k + 1 < l.length ∧ (hs2 : Int) < size ∧ ct = false) ∨ (∃ hk1 : k + 1 < l.length, size ≤ (hs2 : Int) ∧ ((l[k + 1]'hk1).key == x.key) = !ct) := by
        rcases Nat.lt_or_ge (k + 1) l.length with h | h
        · rcases Int.lt_or_le (hs2 : Int) size with h3 | h3
          · exact ⟨false, .inr (.inl ⟨h, h3, rfl⟩)⟩
          · exact ⟨!((l[k + 1]'h).key == x.key), .inr (.inr ⟨h, h3, by simp⟩)⟩
        · exact ⟨true, .inl ⟨by omega, rfl⟩⟩
      obtain ⟨ct, hct⟩ := hways
      have HCt : Hid ((ct = true → ∀ h : k + 1 < l.length, Op.bytesLess l[k].key (l[k + 1]'h).key = true) ∧ (ct = false → k + 1 < l.length)) := Lib.hid (by
        rcases hct with ⟨h3, rfl⟩ | ⟨h3, _, rfl⟩ | ⟨h3, _, h4⟩
        · exact ⟨fun _ h => by omega, fun h => (by cases h)⟩
        · exact ⟨fun h => (by cases h), fun _ => h3⟩
        · refine ⟨fun hc h => key_lt HS.out h ?_, fun _ => h3⟩
          rw [hc] at h4
          rw [HX.out, Bool.eq_false_iff]
          intro h5
          have h6 : x.key = (l[k + 1]'h).key := by simpa using h5
          rw [← h6] at h4
          simp at h4)
      have HCtw := Lib.hid hct
      have hs20 : (0 : Int) ≤ (hs2 : Int) := by omega
      clear hct
      go_wp2_with fail
      go_upto_region 7 with (fail)
      go_cut [41] (fun sl wx => sl = .bool ct ∧ Below w2.heap.size w2 wx)
      case first =>
        have hwk : IntKind.i64.wrap ((k : Int) + 1) = (k : Int) + 1 := IntWalk.i64_in _ (by omega)
        rcases HCtw.out with ⟨h3, rfl⟩ | ⟨h3, h4, rfl⟩ | ⟨h3, h4, h5⟩
        · have d1 : ((k : Int) + 1 == (l.length : Int)) = true := by rw [beq_iff_eq]; omega
          clear h3
          go_quiet (fail)
          go_wp2_with fail
          go_meet
          exact ⟨rfl, below_drewN (Below.refl _ _) _⟩
        · have d1 : ((k : Int) + 1 == (l.length : Int)) = false := by rw [beq_eq_false_iff_ne]; omega
          have d2 : decide (size ≤ (hs2 : Int)) = false := decide_eq_false (by omega)
          clear h3 h4
          go_quiet (fail)
          go_wp2_with fail
          go_meet
          exact ⟨rfl, below_drewN (Below.refl _ _) _⟩
        · have d1 : ((k : Int) + 1 == (l.length : Int)) = false := by rw [beq_eq_false_iff_ne]; omega
          have d2 : decide (size ≤ (hs2 : Int)) = true := decide_eq_true h4
          obtain ⟨b3, off3, q3, c3, hp3, hb3, _, _, y0, _, _, _⟩ := (HV.out.below (hbz.trans (HB2.out.mono hbz.size))).at_ (List.getElem?_eq_getElem h3)
          obtain ⟨rfl, rfl⟩ : b1 = b3 ∧ off1 = off3 := by simpa using hp3
          have hkl : (k : Int) + 1 < (l.length : Int) := by omega
          have hk0 : (0 : Int) ≤ (k : Int) + 1 := by omega
          have hkt : ((k : Int) + 1).toNat = k + 1 := by omega
          generalize (l[k + 1]'h3).key = ky at *
          have h5n : (ky != x.key) = ct := by rw [bne, h5]; simp
          clear h4 hp3
          cases ct
          all_goals
            go_quiet (fail)
            go_wp2_with fail
            go_meet
            exact ⟨rfl, below_drewN (Below.refl _ _) _⟩
      case rest =>
        obtain ⟨rfl, hbc⟩ := hcut
        generalize wc = wx at *
        have HBx : Hid (Below wz.heap.size wz wx) := Lib.hid (HB2.out.trans (hbc.mono HB2.out.size))
        have hwk : IntKind.i64.wrap ((k : Int) + 1) = (k : Int) + 1 := IntWalk.i64_in _ (by omega)
        clear hbc z0
        cases ct
        · have hk1 := HCt.out.2 rfl
          go_wp2_with fail
          go_roundw
          case rel => exact ⟨k + 1, b, hs2, ps, us, pv, cv, by omega, by omega, fun h => by omega, hhs3, by go_num, rfl, rfl, rfl, HPs.out, HPw.out.below HBx.out⟩
          case measure => simp [intOf]; omega
        · have hcut := HCt.out.1 rfl
          have HPn := Lib.hid (HPs.out.snoc hbk hlt hcut)
          obtain ⟨qc, cc, hent, hlen, hrun⟩ := HV.out.cut (i := b) (k := k + 1) (by omega) (by omega)
          obtain ⟨q, hq⟩ : ∃ q, (l.drop b).take (k + 1 - b) = q := ⟨_, rfl⟩
          rw [hq] at hent hlen HPn
          obtain ⟨uu, hu⟩ := hent
          have hbx := hbz.trans (HBx.out.mono hbz.size)
          have HCl : Hid (∀ V, Below w.heap.size w V → Cl V F (.slice qc (k + 1 - b) cc) q.length (cellsE q uu)) := Lib.hid (fun V hV => Cl.below hu.cl hV)
          have HVal : Hid (∀ (j : Nat) (e : Ent) (y : Value), q[j]? = some e → uu[j]? = some y → By w F y e.val) := Lib.hid hu.val
          have HUl := Lib.hid hu.len
          have HOne1 := Lib.hid (cellsE_one q uu hu.ones)
          have hql : q.length ≤ 131072 := by omega
          have hkb : ((k + 1 : Nat) : Int) = (k : Int) + 1 := by omega
          rw [hkb] at hrun
          have HPwx := Lib.hid (HPw.out.below HBx.out)
          have hxs := hbx.size
          have HBwx := Lib.hid hbx
          clear hu hq hkb hbx hlen
          go_wp2_with (first
            | (at_builtin; refine slEnt.wpList_append rfl (.const (.slice none 0 0)) (.tmp 47) rfl w.heap.size (v := .slice none 0 0) (u := .slice qc (k + 1 - b) cc) (n := 0) (xs := []) rfl rfl (World.ownsRow_nil _ _ _ _) (HCl.out _ HBwx.out) (cellsE_length _ _ HUl.out) HOne1.out (by omega) hxs ?_
               intro v1 w1 ho1 hg1 ha1
               rw [Nat.zero_add, List.nil_append] at ho1
               have HPm : Hid (PartM w w1 F v1 q) := Lib.hid ⟨uu, HUl.out, ho1, HVal.out⟩
               have HB1 : Hid (Below wx.heap.size wx w1) := Lib.hid ((Below.refl _ wx).grown hg1 (Nat.le_refl _) (fun j hj => by simp [Value.ownBlock] at hj))
               obtain ⟨qv, qcv, rfl, _, _⟩ := row_shape ho1
               have hs1 := HB1.out.size
               have HRw : Hid ((w1.alloc (.cells #[.slice qv q.length qcv] 26)).ownsRow w.heap.size 26 1 (.slice pv ps.length cv) ps.length us) := Lib.hid (row_keep (HPwx.out.below HB1.out).row fun j hj => alloc_old (row_lt (HPwx.out.below HB1.out).row j hj) _)
               have HNw : Hid (Cl (w1.alloc (.cells #[.slice qv q.length qcv] 26)) (fun _ => True) (.slice (some ⟨w1.heap.size, 0, none⟩) 1 1) 1 [.slice qv q.length qcv]) := Lib.hid (Cl.new w1 (fun _ => True) 1 [.slice qv q.length qcv] _ _ rfl (by omega) trivial)
               clear ho1 hg1 ha1)
            | (at_builtin; refine slEns.wpList_append rfl (.tmp 42) (.tmp 49) rfl w.heap.size (v := .slice pv ps.length cv) (u := .slice (some ⟨w1.heap.size, 0, none⟩) 1 1) rfl rfl HRw.out HNw.out rfl (by intro x hx; rw [List.mem_singleton.1 hx]; rfl) (by omega) (by simp; omega) ?_
               intro v3 w3 ho3 hg3 ha3
               have HP3 := Lib.hid (HPwx.out.snoc HB1.out HPm.out rfl (belowA w1 _) ho3 hg3)
               obtain ⟨p3, c3, rfl, _, _⟩ := row_shape ho3
               clear ho3 hg3 ha3))
          go_roundw
          case rel => exact ⟨k + 1, k + 1, 0, ps ++ [q], us ++ [.slice qv q.length qcv], p3, c3, by omega, Nat.le_refl _, fun _ => rfl, by omega, by go_num, by go_num, rfl, by rw [List.length_append, List.length_singleton], HPn.out, by rw [List.length_append, List.length_singleton]; exact HP3.out⟩
          case measure => simp [intOf]; omega
    · obtain rfl : k = l.length := by omega
      obtain rfl := HEnd.out rfl
      have d3 : decide ((l.length : Int) < (l.length : Int)) = false := by simp
      go_wp2_with fail
      go_ret
      exact ⟨ps, us, pv, cv, rfl, HPs.out, HPw.out⟩
end Go.Proofs.Yteclnnjijfbfoaa

/-
  The walk over compact.Run of right lists.
-/
namespace Go.Proofs.Yteclnnjijfbfoaa
open Go.RowKit

theorem Els.mono {w : World} {F G : Nat → Prop} {v : Value} {ls : List (List Ent)} (h : Els w F v ls) (hG : ∀ k, F k → G k) : Els w G v ls := by
  obtain ⟨us, h1, h2, h3⟩ := h
  exact ⟨us, h1, h2.mono fun k _ hk => hG k hk, fun k l u h4 h5 => (h3 k l u h4 h5).mono fun j _ hj => hG j hj⟩

theorem mrgL_len : ∀ (ls : List (List Ent)) (m : List Ent), (ls.foldl twoL m).length ≤ m.length + ls.flatten.length
  | [], m => by simp
  | l :: r, m => by
    have h1 := mrgL_len r (twoL m l)
    have h2 := twoL_len l m
    simp only [List.foldl_cons, List.flatten_cons, List.length_append]
    omega
theorem flat_le : ∀ (ls : List (List Ent)) (M : Nat), (∀ l ∈ ls, l.length ≤ M) → ls.flatten.length ≤ ls.length * M
  | [], M, _ => by simp
  | l :: r, M, h => by
    have h1 := flat_le r M fun x hx => h x (.tail _ hx)
    have h2 := h l (.head _)
    simp only [List.flatten_cons, List.length_append, List.length_cons, Nat.succ_mul]
    omega

set_option maxRecDepth 100000 in
set_option maxHeartbeats 2000000 in
theorem run_any (w : World) (F : Nat → Prop) (v : Value) (ls : List (List Ent)) (keep : Nat) (bot : Bool) (size : Int) (h : Els w F v ls) (hr : ∀ l ∈ ls, rightE l = true) (hfit : ∀ l ∈ ls, ∀ x ∈ l, FitE x) (hfew : ls.length ≤ 20) (hM : ∀ l ∈ ls, l.length ≤ 300) (h1 : 1 ≤ size) :
    Calls Try.prog 8 #[.int .u64 (keep : Int), .bool bot, .int .i64 size, v] w fun x w' => ∃ (ps : List (List Ent)) (pv : Option Addr) (cv : Nat), x = .returned (.tuple #[.slice pv ps.length cv, .int .i64 0]) ∧ PrtS (prnE (mrgL ls) keep bot) (prnE (mrgL ls) keep bot).length ps ∧ Els w' (fun _ => True) (.slice pv ps.length cv) ps ∧ Below w.heap.size w w' := by
  have HM := Lib.hid (mg_merge w F v ls h hfit (by omega) 300 hM (by omega))
  have hR := mrgL_right hr
  have hmf := mrgL_fit (fun l hl => (rightE_iff.1 (hr l hl)).2) hfit
  have hml : (mrgL ls).length ≤ 6000 := by
    have h3 := mrgL_len ls []
    have h4 := flat_le ls 300 hM
    have h5 : ls.length * 300 ≤ 20 * 300 := Nat.mul_le_mul_right _ hfew
    simp only [List.length_nil] at h3
    unfold mrgL
    omega
  have hPR : rightE (prnE (mrgL ls) keep bot) = true := right_sub hR (prn_sub _ _ _)
  have hPf : ∀ e ∈ prnE (mrgL ls) keep bot, FitE e := fun e he => hmf e ((prn_sub _ _ _).subset he)
  have hPl : (prnE (mrgL ls) keep bot).length ≤ 6000 := Nat.le_trans (prn_sub _ _ _).length_le hml
  obtain ⟨M, hMM⟩ : ∃ M, mrgL ls = M := ⟨_, rfl⟩
  rw [hMM] at HM hR hmf hml hPR hPf hPl ⊢
  have HP := Lib.hid (fun (W : World) (G : Nat → Prop) (u : Value) (hu : En W G u M) => mg_prune W G u M hu hR hmf (by omega) keep bot)
  obtain ⟨P, hPP⟩ : ∃ P, prnE M keep bot = P := ⟨_, rfl⟩
  rw [hPP] at HP hPR hPf hPl ⊢
  have HPa := Lib.hid (fun (W : World) (G : Nat → Prop) (u : Value) (hu : En W G u P) => parts_any W G u P size hu (rightE_iff.1 hPR).2 hPf (by omega))
  have HRt := Lib.hid hr
  have d1 : decide (size < 1) = false := decide_eq_false (by omega)
  clear h hr hfit hM hR hmf hml hPR hPf hMM hPP
  go_enter Try.func8, Try.ntmps8
  go_wp2_with fail
  refine HM.out.mono ?_
  rintro x w1 ⟨hb1, h2⟩
  rcases h2 with ⟨_, u, rfl, hu⟩ | ⟨⟨l, hl, hl2⟩, _⟩
  · have HB1 := Lib.hid hb1
    have HP1 := Lib.hid (HP.out w1 _ u hu)
    clear hb1 hu HM HP
    go_wp2_with fail
    refine HP1.out.mono ?_
    rintro x w2 ⟨u2, rfl, hu2, hb2⟩
    have HB2 := Lib.hid (HB1.out.trans (hb2.mono HB1.out.size))
    have HP2 := Lib.hid (HPa.out w2 _ u2 hu2)
    clear hb2 hu2 HP1 HPa
    go_wp2_with fail
    refine HP2.out.mono ?_
    rintro x w3 ⟨ps, us, pv, cv, rfl, hps, hpw⟩
    have hpl := hps.len
    have hmem : ∀ p ∈ ps, p.length ≤ 1048576 := fun p hp => by
      have h3 := (List.sublist_flatten_of_mem hp).length_le
      rw [hps.flat, List.length_take] at h3
      omega
    have HE := Lib.hid ((hpw.els (by omega) hmem).mono (G := fun _ => True) fun _ _ => trivial)
    have HB3 := Lib.hid (HB2.out.trans (hpw.bel.mono HB2.out.size))
    have HPs := Lib.hid hps
    clear hps hpw hmem HP2
    go_wp2_with fail
    refine Go.bodyPost_ret (Go.results_tmp2 rfl _ _ _) rfl ?_
    exact ⟨ps, pv, cv, rfl, HPs.out, HE.out, HB3.out⟩
  · rw [HRt.out l hl] at hl2
    cases hl2
end Go.Proofs.Yteclnnjijfbfoaa

/-
  Tables of a version in memory; the walk over compact.at.
-/
namespace Go.Proofs.Yteclnnjijfbfoaa
open Go.RowKit

structure Tab where
  file : Int
  level : Int
  first : List UInt8
  last : List UInt8
  size : Int
def cT (t : Tab) : List Value := [.int .i64 t.file, .int .i64 t.level, .string ⟨t.first.toArray⟩, .string ⟨t.last.toArray⟩, .int .i64 t.size]
def cellsTs (l : List Tab) : List Value := (l.map cT).flatten
theorem cellsTs_len (l : List Tab) : (cellsTs l).length = l.length * 5 := by
  induction l with
  | nil => rfl
  | cons t r ih =>
    have e : cellsTs (t :: r) = cT t ++ cellsTs r := by simp [cellsTs]
    rw [e, List.length_append, ih, List.length_cons]
    simp only [cT, List.length_cons, List.length_nil]
    omega
theorem cellsTs_snoc (l : List Tab) (t : Tab) : cellsTs (l ++ [t]) = cellsTs l ++ cT t := by simp [cellsTs]
theorem cT_one (t : Tab) : ∀ x ∈ cT t, x.oneCell' = true := by
  intro x hx
  simp only [cT, List.mem_cons, List.not_mem_nil, or_false] at hx
  rcases hx with rfl | rfl | rfl | rfl | rfl <;> rfl
theorem cellsTs_at : ∀ (l : List Tab) (k : Nat) (t : Tab), l[k]? = some t → (cellsTs l)[k * 5]? = some (.int .i64 t.file) ∧ (cellsTs l)[k * 5 + 1]? = some (.int .i64 t.level) ∧ (cellsTs l)[k * 5 + 2]? = some (.string ⟨t.first.toArray⟩) ∧ (cellsTs l)[k * 5 + 3]? = some (.string ⟨t.last.toArray⟩) ∧ (cellsTs l)[k * 5 + 4]? = some (.int .i64 t.size)
  | [], k, t, h => by simp at h
  | c :: r, 0, t, h => by
    obtain rfl : c = t := by simpa using h
    exact ⟨rfl, rfl, rfl, rfl, rfl⟩
  | c :: r, k + 1, t, h => by
    have ih := cellsTs_at r k t (by simpa using h)
    have e : cellsTs (c :: r) = cT c ++ cellsTs r := by simp [cellsTs]
    have hl : (cT c).length = 5 := rfl
    rw [e]
    refine ⟨?_, ?_, ?_, ?_, ?_⟩
    · rw [List.getElem?_append_right (by omega), hl, show (k + 1) * 5 - 5 = k * 5 from by omega]; exact ih.1
    · rw [List.getElem?_append_right (by omega), hl, show (k + 1) * 5 + 1 - 5 = k * 5 + 1 from by omega]; exact ih.2.1
    · rw [List.getElem?_append_right (by omega), hl, show (k + 1) * 5 + 2 - 5 = k * 5 + 2 from by omega]; exact ih.2.2.1
    · rw [List.getElem?_append_right (by omega), hl, show (k + 1) * 5 + 3 - 5 = k * 5 + 3 from by omega]; exact ih.2.2.2.1
    · rw [List.getElem?_append_right (by omega), hl, show (k + 1) * 5 + 4 - 5 = k * 5 + 4 from by omega]; exact ih.2.2.2.2
/-- A slice of tables. -/
def TsM (w : World) (F : Nat → Prop) (v : Value) (l : List Tab) : Prop := Cl w F v l.length (cellsTs l)
theorem TsM.below {w w' : World} {F : Nat → Prop} {v : Value} {l : List Tab} (h : TsM w F v l) (hb : Below w.heap.size w w') : TsM w' F v l := Cl.below h hb
theorem TsM.at_ {w : World} {F : Nat → Prop} {p : Option Addr} {m cap : Nat} {l : List Tab} (h : TsM w F (.slice p m cap) l) {k : Nat} {t : Tab} (hk : l[k]? = some t) :
    ∃ b off, p = some ⟨b, off, none⟩ ∧ b < w.heap.size ∧ w.cell? ⟨b, off + k * 5, none⟩ = some (.int .i64 t.file) ∧ w.cell? ⟨b, off + k * 5 + 1, none⟩ = some (.int .i64 t.level) ∧ w.cell? ⟨b, off + k * 5 + 2, none⟩ = some (.string ⟨t.first.toArray⟩) ∧ w.cell? ⟨b, off + k * 5 + 3, none⟩ = some (.string ⟨t.last.toArray⟩) ∧ w.cell? ⟨b, off + k * 5 + 4, none⟩ = some (.int .i64 t.size) := by
  obtain ⟨h0, h1, h2, h3, h4⟩ := cellsTs_at l k t hk
  obtain ⟨b, off, e, hb, _, c0⟩ := Cl.at_ h h0
  obtain ⟨b1, off1, e1, _, _, c1⟩ := Cl.at_ h h1
  obtain ⟨b2, off2, e2, _, _, c2⟩ := Cl.at_ h h2
  obtain ⟨b3, off3, e3, _, _, c3⟩ := Cl.at_ h h3
  obtain ⟨b4, off4, e4, _, _, c4⟩ := Cl.at_ h h4
  subst e
  obtain ⟨rfl, rfl⟩ : b = b1 ∧ off = off1 := by simpa using e1
  obtain ⟨rfl, rfl⟩ : b = b2 ∧ off = off2 := by simpa using e2
  obtain ⟨rfl, rfl⟩ : b = b3 ∧ off = off3 := by simpa using e3
  obtain ⟨rfl, rfl⟩ : b = b4 ∧ off = off4 := by simpa using e4
  exact ⟨b, off, rfl, hb, c0, c1, c2, c3, c4⟩
theorem slTab : SlT 42 49 5 56 :=
  ⟨Try.underlying42, by simp [Program.elem, Try.underlying42], fun _ => by kernel_rfl, ⟨.agg #[.int .i64 0, .int .i64 0, .string ⟨#[]⟩, .string ⟨#[]⟩, .int .i64 0], by kernel_rfl, rfl⟩, by omega, by omega⟩
def set5 (w : World) (g : Nat) (a b c d e : Value) : World := ((((w.setCell ⟨g, 0, none⟩ a).setCell ⟨g, 1, none⟩ b).setCell ⟨g, 2, none⟩ c).setCell ⟨g, 3, none⟩ d).setCell ⟨g, 4, none⟩ e
theorem set5_heap {w : World} {g : Nat} {a b c d e : Value} {t : TypeId} {fz : Nat × Nat} (h : w.heap[g]? = some (.cells #[a, b, c, d, e] t fz)) (x y z u v : Value) : (set5 w g x y z u v).heap[g]? = some (.cells #[x, y, z, u, v] t fz) := by
  have h1 := setCell_same (off := 0) h x
  have h2 := setCell_same (off := 1) h1 y
  have h3 := setCell_same (off := 2) h2 z
  have h4 := setCell_same (off := 3) h3 u
  have h5 := setCell_same (off := 4) h4 v
  simpa [set5] using h5
theorem set5_fr (w : World) (g : Nat) (x y z u v : Value) (S : Nat → Prop) (hS : S g) : Fr S w (set5 w g x y z u v) :=
  ((((Fr.setCell S w (p := ⟨g, 0, none⟩) hS x).then (Fr.setCell S _ (p := ⟨g, 1, none⟩) hS y)).then (Fr.setCell S _ (p := ⟨g, 2, none⟩) hS z)).then (Fr.setCell S _ (p := ⟨g, 3, none⟩) hS u)).then (Fr.setCell S _ (p := ⟨g, 4, none⟩) hS v)

def lvT (lv : Int) (l : List Tab) : List Tab := l.filter fun t => t.level == lv
theorem lvT_snoc (lv : Int) (l : List Tab) (k : Nat) (h : k < l.length) : lvT lv (l.take (k + 1)) = if (l[k].level == lv) = true then lvT lv (l.take k) ++ [l[k]] else lvT lv (l.take k) := by
  unfold lvT
  rw [take_snoc l k _ (List.getElem?_eq_getElem h), List.filter_append]
  split
  · next h1 => simp [h1]
  · next h1 => simp [h1]
theorem lvT_len (lv : Int) (l : List Tab) : (lvT lv l).length ≤ l.length := List.length_filter_le _ _
def vT (tv : Value) (s n m : Int) : Value := .agg #[tv, .int .u64 s, .int .i64 n, .int .i64 m]

set_option maxRecDepth 100000 in
set_option maxHeartbeats 4000000 in
theorem at_any (w : World) (F : Nat → Prop) (tv : Value) (ts : List Tab) (s n m lv : Int) (h : TsM w F tv ts) (hl : ts.length ≤ 1048576) :
    Calls Try.prog 26 #[.agg #[tv, .int .u64 s, .int .i64 n, .int .i64 m], .int .i64 lv] w fun x w' => ∃ q c, x = .returned (.slice q (lvT lv ts).length c) ∧ w'.ownsRow w.heap.size 49 5 (.slice q (lvT lv ts).length c) (lvT lv ts).length (cellsTs (lvT lv ts)) ∧ Below w.heap.size w w' := by
  obtain ⟨p, cap, rfl, hlc, hl47, hcm, _⟩ := Cl.form h
  have HV := Lib.hid h
  have hb0 : Below w.heap.size w (w.alloc (.cells #[.slice p ts.length cap, .int .u64 s, .int .i64 n, .int .i64 m] 44)) := belowA _ _
  have HB0 := Lib.hid hb0
  clear h hb0
  go_enter Try.func26, Try.ntmps26
  go_wp2_with fail
  go_loopw [5, 11] (fun sv iv wr => ∃ (k : Nat) (q : Option Addr) (c : Nat), k ≤ ts.length ∧ iv = .int .i64 (k : Int) ∧ sv = .slice q (lvT lv (ts.take k)).length c ∧ wr.ownsRow w.heap.size 49 5 (.slice q (lvT lv (ts.take k)).length c) (lvT lv (ts.take k)).length (cellsTs (lvT lv (ts.take k))) ∧ Below w.heap.size w wr) (fun _ iv _ => ts.length - (intOf iv).toNat)
  case atStart => exact ⟨0, none, 0, by omega, rfl, rfl, World.ownsRow_nil _ _ _ _, HB0.out⟩
  case round =>
    obtain ⟨k, q, c, hk, rfl, rfl, hrow, hb⟩ := hrel
    generalize wr = wz at *
    have HRow := Lib.hid hrow
    have HB := Lib.hid hb
    have hfl := lvT_len lv (ts.take k)
    rw [List.length_take, Nat.min_eq_left hk] at hfl
    by_cases hlt : k < ts.length
    · obtain ⟨b1, off1, rfl, hbl, e0, e1, e2, e3, e4⟩ := (HV.out.below hb).at_ (List.getElem?_eq_getElem hlt)
      have HSn := Lib.hid (lvT_snoc lv ts k hlt)
      obtain ⟨x, hx⟩ : ∃ x, ts[k] = x := ⟨_, rfl⟩
      rw [hx] at e0 e1 e2 e3 e4 HSn
      obtain ⟨xf, xl, xa, xz, xs⟩ := x
      dsimp only at e0 e1 e2 e3 e4 HSn
      have hz := heap_alloc_new wz (.cells #[.int .i64 0, .int .i64 0, .string ⟨#[]⟩, .string ⟨#[]⟩, .int .i64 0] 49)
      obtain ⟨Y, hY⟩ : ∃ Y, wz.alloc (.cells #[.int .i64 0, .int .i64 0, .string ⟨#[]⟩, .string ⟨#[]⟩, .int .i64 0] 49) = Y := ⟨_, rfl⟩
      have hbY : Below wz.heap.size wz Y := by rw [← hY]; exact belowA _ _
      rw [hY] at hz
      have f0 := frozen_of (i := 0) hz
      have f1 := frozen_of (i := 1) hz
      have f2 := frozen_of (i := 2) hz
      have f3 := frozen_of (i := 3) hz
      have f4 := frozen_of (i := 4) hz
      have u0 := cell_of (i := 0) hz rfl
      have u1 := cell_of (i := 1) hz rfl
      have u2 := cell_of (i := 2) hz rfl
      have u3 := cell_of (i := 3) hz rfl
      have u4 := cell_of (i := 4) hz rfl
      obtain ⟨X, hX⟩ : ∃ X, set5 Y wz.heap.size (.int .i64 xf) (.int .i64 xl) (.string ⟨xa.toArray⟩) (.string ⟨xz.toArray⟩) (.int .i64 xs) = X := ⟨_, rfl⟩
      have hbX : Below wz.heap.size wz X := by rw [← hX]; exact hbY.trans ((set5_fr Y wz.heap.size _ _ _ _ _ (fun k => k = wz.heap.size) rfl).below hbY.size (fun k hk e => by omega))
      have hXa : X.heap[wz.heap.size]? = some (.cells #[.int .i64 xf, .int .i64 xl, .string ⟨xa.toArray⟩, .string ⟨xz.toArray⟩, .int .i64 xs] 49 (0, 0)) := by rw [← hX]; exact set5_heap hz _ _ _ _ _
      unfold set5 at hX
      have x0 := cell_of (i := 0) hXa rfl
      have x1 := cell_of (i := 1) hXa rfl
      have x2 := cell_of (i := 2) hXa rfl
      have x3 := cell_of (i := 3) hXa rfl
      have x4 := cell_of (i := 4) hXa rfl
      have HBX : Hid (Below w.heap.size w X) := Lib.hid (hb.trans (hbX.mono hb.size))
      have hXs := HBX.out.size
      have HRw : Hid ((X.alloc (.cells #[.int .i64 xf, .int .i64 xl, .string ⟨xa.toArray⟩, .string ⟨xz.toArray⟩, .int .i64 xs] 49)).ownsRow w.heap.size 49 5 (.slice q (lvT lv (ts.take k)).length c) (lvT lv (ts.take k)).length (cellsTs (lvT lv (ts.take k)))) := Lib.hid (row_keep hrow fun j hj => (alloc_old (Nat.lt_of_lt_of_le (row_lt hrow j hj) hbX.size) _).trans (hbX.block j (row_lt hrow j hj)))
      have HNw : Hid (Cl (X.alloc (.cells #[.int .i64 xf, .int .i64 xl, .string ⟨xa.toArray⟩, .string ⟨xz.toArray⟩, .int .i64 xs] 49)) (fun _ => True) (.slice (some ⟨X.heap.size, 0, none⟩) 1 1) 1 (cT ⟨xf, xl, xa, xz, xs⟩)) := Lib.hid (Cl.new X (fun _ => True) 1 (cT ⟨xf, xl, xa, xz, xs⟩) _ _ rfl (by omega) trivial)
      have HOne := Lib.hid (cT_one ⟨xf, xl, xa, xz, xs⟩)
      have HRowX : Hid (X.ownsRow w.heap.size 49 5 (.slice q (lvT lv (ts.take k)).length c) (lvT lv (ts.take k)).length (cellsTs (lvT lv (ts.take k)))) := Lib.hid (row_keep hrow fun j hj => hbX.block j (row_lt hrow j hj))
      clear hz hbY hXa hbX hrow hb hx
      cases hq : (xl == lv)
      · rw [hq] at HSn
        go_wp2_with fail
        go_roundw
        case rel => exact ⟨k + 1, q, c, by omega, by go_num, by rw [HSn.out]; rfl, by rw [HSn.out]; exact HRowX.out, HBX.out⟩
        case measure => simp [intOf]; omega
      · rw [hq] at HSn
        have hsn2 : lvT lv (ts.take (k + 1)) = lvT lv (ts.take k) ++ [⟨xf, xl, xa, xz, xs⟩] := by rw [HSn.out]; rfl
        have HSn2 := Lib.hid hsn2
        clear hsn2 HSn
        generalize lvT lv (ts.take k) = L at *
        go_wp2_with (at_builtin; refine slTab.wpList_append rfl (.tmp 19) (.tmp 21) rfl w.heap.size (v := .slice q L.length c) (u := .slice (some ⟨X.heap.size, 0, none⟩) 1 1) rfl rfl HRw.out HNw.out rfl HOne.out (by omega) (by simp; omega) ?_; intro v3 w3 ho3 hg3 ha3; have HB3 := Lib.hid ((HBX.out.alloc hXs _).grown hg3 (by simp; omega) (fun j hj => (World.ownsRow.lt HRw.out j hj).1)); obtain ⟨p3, c3, rfl, _, _⟩ := row_shape ho3; have HO3 := Lib.hid ho3; clear ho3 hg3 ha3)
        go_roundw
        case rel => exact ⟨k + 1, p3, c3, by omega, by go_num, by rw [HSn2.out, List.length_append, List.length_singleton], by rw [HSn2.out, cellsTs_snoc, List.length_append, List.length_singleton]; exact HO3.out, HB3.out⟩
        case measure => simp [intOf]; omega
    · obtain rfl : k = ts.length := by omega
      rw [List.take_length] at HRow ⊢
      go_wp2_with fail
      go_ret
      exact ⟨q, c, rfl, HRow.out, HB.out⟩
end Go.Proofs.Yteclnnjijfbfoaa

/-
  The two tables of the law's first call; the walks over compact.around, Over there.
-/
namespace Go.Proofs.Yteclnnjijfbfoaa
open Go.RowKit

def tabA : Tab := ⟨1, 0, [97], [98], 0⟩
def tabB : Tab := ⟨2, 0, [98], [99], 0⟩
def tabs2 : List Tab := [tabA, tabB]
theorem lvT_none {lv : Int} (h : 1 ≤ lv) : lvT lv tabs2 = [] := by
  have h1 : ((0 : Int) == lv) = false := by rw [beq_eq_false_iff_ne]; omega
  simp [lvT, tabs2, tabA, tabB, h1]
theorem lvT_zero : lvT 0 tabs2 = tabs2 := rfl
/-- The stretch, from table to table. -/
def stK (k : Nat) : List UInt8 × List UInt8 := if k = 2 then ([97], [99]) else ([97], [98])
theorem stretchInfo (cs : Array Value) (hs : cs.size = 2) : (Try.prog.info? 92).map (·.size) = some cs.size := by rw [hs]; kernel_rfl

theorem results_str2 {fn : Func} {p : Tmp} (h : fn.results = #[.cell p 92]) (tmps : Array Value) (w : World) (g : Nat) (cs : Array Value) (hp : tmps.getD p undef = .pointer (some ⟨g, 0, none⟩))
    (hg : w.heap[g]? = some (.cells cs 92 (0, 0))) (hs : cs.size = 2) : (results fn tmps).run Try.prog w = .ok (.agg cs) w :=
  results_cell_row h tmps w g _ cs (0, 0) _ hp hg Try.underlying92 rfl (stretchInfo cs hs)
theorem min_aa (W : World) : (Builtin.min_ #[9, 9] 9 #[.string ⟨#[97]⟩, .string ⟨#[97]⟩]).run Try.prog W = .ok (.string ⟨#[97]⟩) W := by kernel_rfl
theorem min_ab (W : World) : (Builtin.min_ #[9, 9] 9 #[.string ⟨#[97]⟩, .string ⟨#[98]⟩]).run Try.prog W = .ok (.string ⟨#[97]⟩) W := by kernel_rfl
theorem max_bb (W : World) : (Builtin.max_ #[9, 9] 9 #[.string ⟨#[98]⟩, .string ⟨#[98]⟩]).run Try.prog W = .ok (.string ⟨#[98]⟩) W := by kernel_rfl
theorem max_bc (W : World) : (Builtin.max_ #[9, 9] 9 #[.string ⟨#[98]⟩, .string ⟨#[99]⟩]).run Try.prog W = .ok (.string ⟨#[99]⟩) W := by kernel_rfl

set_option maxRecDepth 100000 in
set_option maxHeartbeats 4000000 in
theorem around_k (w : World) (F : Nat → Prop) (q : Option Addr) (c : Nat) (h : TsM w F (.slice q 2 c) tabs2) :
    Calls Try.prog 42 #[.slice q 2 c] w fun x w' => x = .returned (.agg #[.string ⟨#[97]⟩, .string ⟨#[99]⟩]) ∧ Below w.heap.size w w' := by
  have HV := Lib.hid h
  obtain ⟨b1, off1, rfl, hbl, _, _, e2, e3, _⟩ := h.at_ (k := 0) (t := tabA) rfl
  have hz := heap_alloc_new w (.cells #[.string ⟨#[]⟩, .string ⟨#[]⟩] 92)
  obtain ⟨Y, hY⟩ : ∃ Y, w.alloc (.cells #[.string ⟨#[]⟩, .string ⟨#[]⟩] 92) = Y := ⟨_, rfl⟩
  have hbY : Below w.heap.size w Y := by rw [← hY]; exact belowA _ _
  rw [hY] at hz
  have HYz := Lib.hid hz
  have HBY := Lib.hid hbY
  have d2 := (below_cells hbY b1 _ hbl).trans e2
  have d3 := (below_cells hbY b1 _ hbl).trans e3
  rw [Nat.zero_mul, Nat.add_zero] at d2 d3
  have hYs := block_lt hz
  clear h hz hbY e2 e3
  go_enter Try.func42, Try.ntmps42
  go_upto_region 1 with (fail)
  go_cut [3] (fun v wx => ∃ g, v = .pointer (some ⟨g, 0, none⟩) ∧ wx.heap[w.heap.size]? = some (.cells #[.string ⟨#[]⟩, .string ⟨#[]⟩] 92 (0, 0)) ∧ wx.heap[g]? = some (.cells #[.string ⟨#[97]⟩, .string ⟨#[98]⟩] 92 (0, 0)) ∧ g ≠ w.heap.size ∧ w.heap.size ≤ g ∧ Below w.heap.size w wx)
  case first =>
    have hza := heap_alloc_new Y (.cells #[.string ⟨#[]⟩, .string ⟨#[]⟩] 92)
    have hbZ : Below Y.heap.size Y (Y.alloc (.cells #[.string ⟨#[]⟩, .string ⟨#[]⟩] 92)) := belowA _ _
    have z2 := (below_cells hbZ b1 _ (Nat.lt_of_lt_of_le hbl HBY.out.size)).trans d2
    have z3 := (below_cells hbZ b1 _ (Nat.lt_of_lt_of_le hbl HBY.out.size)).trans d3
    have f0 := frozen_of (i := 0) hza
    have f1 := frozen_of (i := 1) hza
    have u0 := cell_of (i := 0) hza rfl
    have u1 := cell_of (i := 1) hza rfl
    have HW : Hid (∀ (a b : Value), (Y.alloc (.cells #[a, b] 92)).heap[w.heap.size]? = some (.cells #[.string ⟨#[]⟩, .string ⟨#[]⟩] 92 (0, 0)) ∧ (Y.alloc (.cells #[a, b] 92)).heap[Y.heap.size]? = some (.cells #[a, b] 92 (0, 0)) ∧ Below w.heap.size w (Y.alloc (.cells #[a, b] 92))) := Lib.hid (fun a b =>
      ⟨(alloc_old hYs _).trans HYz.out, heap_alloc_new Y _, HBY.out.alloc HBY.out.size _⟩)
    clear hza hbZ
    go_region
    all_goals
      go_wp2_with fail
      go_meet
      exact ⟨Y.heap.size, rfl, (HW.out _ _).1, (HW.out _ _).2.1, by omega, HBY.out.size, below_drew (HW.out _ _).2.2⟩
  case rest =>
    obtain ⟨g, rfl, hg0, hg1, hgn, hgg, hbc⟩ := hcut
    generalize wc = wA at *
    clear d2 d3 hY
    have HSt : Hid (wA.heap[w.heap.size]? = some (.cells #[.string ⟨#[]⟩, .string ⟨#[]⟩] 92 (0, 0)) ∧ wA.heap[g]? = some (.cells #[.string ⟨(stK 0).1.toArray⟩, .string ⟨(stK 0).2.toArray⟩] 92 (0, 0)) ∧ Below w.heap.size w wA) := Lib.hid ⟨hg0, hg1, hbc⟩
    clear hg0 hg1 hbc
    go_wp2_with fail
    go_loopw [17] (fun iv wr => ∃ k : Nat, k ≤ 2 ∧ iv = .int .i64 (k : Int) ∧ Hid (wr.heap[w.heap.size]? = some (.cells #[.string ⟨#[]⟩, .string ⟨#[]⟩] 92 (0, 0)) ∧ wr.heap[g]? = some (.cells #[.string ⟨(stK k).1.toArray⟩, .string ⟨(stK k).2.toArray⟩] 92 (0, 0)) ∧ Below w.heap.size w wr)) (fun iv _ => 2 - (intOf iv).toNat)
    case atStart => exact ⟨0, by omega, rfl, HSt⟩
    case round =>
      obtain ⟨k, hk, rfl, HR⟩ := hrel
      generalize wr = wz at *
      have hkk : k = 0 ∨ k = 1 ∨ k = 2 := by omega
      rcases hkk with rfl | rfl | rfl
      · obtain ⟨b2, off2, hp2, hb2, e0, e1, e2, e3, e4⟩ := (HV.out.below HR.out.2.2).at_ (k := 0) (t := tabA) rfl
        obtain ⟨rfl, rfl⟩ : b1 = b2 ∧ off1 = off2 := by simpa using hp2
        clear hp2
        simp only [Nat.zero_mul, Nat.add_zero] at e0 e1 e2 e3 e4
        simp only [tabA] at e0 e1 e2 e3 e4
        have hz := heap_alloc_new wz (.cells #[.int .i64 0, .int .i64 0, .string ⟨#[]⟩, .string ⟨#[]⟩, .int .i64 0] 49)
        obtain ⟨V, hV⟩ : ∃ Y, wz.alloc (.cells #[.int .i64 0, .int .i64 0, .string ⟨#[]⟩, .string ⟨#[]⟩, .int .i64 0] 49) = Y := ⟨_, rfl⟩
        have hbV : Below wz.heap.size wz V := by rw [← hV]; exact belowA _ _
        rw [hV] at hz
        have f0 := frozen_of (i := 0) hz
        have f1 := frozen_of (i := 1) hz
        have f2 := frozen_of (i := 2) hz
        have f3 := frozen_of (i := 3) hz
        have f4 := frozen_of (i := 4) hz
        have u0 := cell_of (i := 0) hz rfl
        have u1 := cell_of (i := 1) hz rfl
        have u2 := cell_of (i := 2) hz rfl
        have u3 := cell_of (i := 3) hz rfl
        have u4 := cell_of (i := 4) hz rfl
        obtain ⟨X, hX⟩ : ∃ X, set5 V wz.heap.size (.int .i64 1) (.int .i64 0) (.string ⟨#[97]⟩) (.string ⟨#[98]⟩) (.int .i64 0) = X := ⟨_, rfl⟩
        have hbX : Below wz.heap.size wz X := by rw [← hX]; exact hbV.trans ((set5_fr V wz.heap.size _ _ _ _ _ (fun k => k = wz.heap.size) rfl).below hbV.size (fun k hk e => by omega))
        have hXa : X.heap[wz.heap.size]? = some (.cells #[(.int .i64 1), (.int .i64 0), (.string ⟨#[97]⟩), (.string ⟨#[98]⟩), (.int .i64 0)] 49 (0, 0)) := by rw [← hX]; exact set5_heap hz _ _ _ _ _
        unfold set5 at hX
        have x0 := cell_of (i := 0) hXa rfl
        have x1 := cell_of (i := 1) hXa rfl
        have x2 := cell_of (i := 2) hXa rfl
        have x3 := cell_of (i := 3) hXa rfl
        have x4 := cell_of (i := 4) hXa rfl
        have hgX := (hbX.block _ (block_lt HR.out.2.1)).trans HR.out.2.1
        have hrX := (hbX.block _ (block_lt HR.out.1)).trans HR.out.1
        simp only [stK] at hgX
        have s0 := cell_of (i := 0) hgX rfl
        have s1 := cell_of (i := 1) hgX rfl
        have z0 := frozen_of (i := 0) hgX
        have z1 := frozen_of (i := 1) hgX
        have HX := Lib.hid (And.intro hrX (And.intro hgX (HR.out.2.2.trans (hbX.mono HR.out.2.2.size))))
        clear hz hbV hbX hXa hgX hrX
        have mn := fun W => min_aa W
        have mx := fun W => max_bb W
        go_wp2_with fail
        go_roundw
        case rel =>
          refine ⟨1, by omega, rfl, Lib.hid ?_⟩
          have q1 := setCell_same (off := 0) HX.out.2.1 (.string ⟨(stK 1).1.toArray⟩)
          have q2 := setCell_same (off := 1) q1 (.string ⟨(stK 1).2.toArray⟩)
          exact ⟨(setCell_other hgn.symm _).trans ((setCell_other hgn.symm _).trans HX.out.1), by simpa [stK] using q2, (HX.out.2.2.setCell (p := ⟨g, 0, none⟩) hgg _).setCell (p := ⟨g, 1, none⟩) hgg _⟩
        case measure => simp [intOf]
      · obtain ⟨b2, off2, hp2, hb2, e0, e1, e2, e3, e4⟩ := (HV.out.below HR.out.2.2).at_ (k := 1) (t := tabB) rfl
        obtain ⟨rfl, rfl⟩ : b1 = b2 ∧ off1 = off2 := by simpa using hp2
        clear hp2
        simp only [Nat.one_mul] at e0 e1 e2 e3 e4
        simp only [tabB] at e0 e1 e2 e3 e4
        have hz := heap_alloc_new wz (.cells #[.int .i64 0, .int .i64 0, .string ⟨#[]⟩, .string ⟨#[]⟩, .int .i64 0] 49)
        obtain ⟨V, hV⟩ : ∃ Y, wz.alloc (.cells #[.int .i64 0, .int .i64 0, .string ⟨#[]⟩, .string ⟨#[]⟩, .int .i64 0] 49) = Y := ⟨_, rfl⟩
        have hbV : Below wz.heap.size wz V := by rw [← hV]; exact belowA _ _
        rw [hV] at hz
        have f0 := frozen_of (i := 0) hz
        have f1 := frozen_of (i := 1) hz
        have f2 := frozen_of (i := 2) hz
        have f3 := frozen_of (i := 3) hz
        have f4 := frozen_of (i := 4) hz
        have u0 := cell_of (i := 0) hz rfl
        have u1 := cell_of (i := 1) hz rfl
        have u2 := cell_of (i := 2) hz rfl
        have u3 := cell_of (i := 3) hz rfl
        have u4 := cell_of (i := 4) hz rfl
        obtain ⟨X, hX⟩ : ∃ X, set5 V wz.heap.size (.int .i64 2) (.int .i64 0) (.string ⟨#[98]⟩) (.string ⟨#[99]⟩) (.int .i64 0) = X := ⟨_, rfl⟩
        have hbX : Below wz.heap.size wz X := by rw [← hX]; exact hbV.trans ((set5_fr V wz.heap.size _ _ _ _ _ (fun k => k = wz.heap.size) rfl).below hbV.size (fun k hk e => by omega))
        have hXa : X.heap[wz.heap.size]? = some (.cells #[(.int .i64 2), (.int .i64 0), (.string ⟨#[98]⟩), (.string ⟨#[99]⟩), (.int .i64 0)] 49 (0, 0)) := by rw [← hX]; exact set5_heap hz _ _ _ _ _
        unfold set5 at hX
        have x0 := cell_of (i := 0) hXa rfl
        have x1 := cell_of (i := 1) hXa rfl
        have x2 := cell_of (i := 2) hXa rfl
        have x3 := cell_of (i := 3) hXa rfl
        have x4 := cell_of (i := 4) hXa rfl
        have hgX := (hbX.block _ (block_lt HR.out.2.1)).trans HR.out.2.1
        have hrX := (hbX.block _ (block_lt HR.out.1)).trans HR.out.1
        simp only [stK] at hgX
        have s0 := cell_of (i := 0) hgX rfl
        have s1 := cell_of (i := 1) hgX rfl
        have z0 := frozen_of (i := 0) hgX
        have z1 := frozen_of (i := 1) hgX
        have HX := Lib.hid (And.intro hrX (And.intro hgX (HR.out.2.2.trans (hbX.mono HR.out.2.2.size))))
        clear hz hbV hbX hXa hgX hrX
        have mn := fun W => min_ab W
        have mx := fun W => max_bc W
        go_wp2_with fail
        go_roundw
        case rel =>
          refine ⟨2, by omega, rfl, Lib.hid ?_⟩
          have q1 := setCell_same (off := 0) HX.out.2.1 (.string ⟨(stK 2).1.toArray⟩)
          have q2 := setCell_same (off := 1) q1 (.string ⟨(stK 2).2.toArray⟩)
          exact ⟨(setCell_other hgn.symm _).trans ((setCell_other hgn.symm _).trans HX.out.1), by simpa [stK] using q2, (HX.out.2.2.setCell (p := ⟨g, 0, none⟩) hgg _).setCell (p := ⟨g, 1, none⟩) hgg _⟩
        case measure => simp [intOf]
      · have hr := HR.out.1
        have hg := HR.out.2.1
        simp only [stK] at hg
        have s0 := cell_of (i := 0) hg rfl
        have s1 := cell_of (i := 1) hg rfl
        have z0 := frozen_of (i := 0) hr
        have z1 := frozen_of (i := 1) hr
        have y0 := cell_of (i := 0) hr rfl
        have y1 := cell_of (i := 1) hr rfl
        clear hr hg
        go_wp2_with fail
        have q1 := setCell_same (off := 0) HR.out.1 (.string ⟨#[97]⟩)
        have q2 := setCell_same (off := 1) q1 (.string ⟨#[99]⟩)
        refine bodyPost_ret (v := .agg #[.string ⟨#[97]⟩, .string ⟨#[99]⟩]) (results_str2 rfl _ _ w.heap.size _ rfl (by simpa using q2) rfl) rfl ⟨rfl, ?_⟩
        exact (HR.out.2.2.setCell (p := ⟨w.heap.size, 0, none⟩) (Nat.le_refl _) _).setCell (p := ⟨w.heap.size, 1, none⟩) (Nat.le_refl _) _
end Go.Proofs.Yteclnnjijfbfoaa

/-
  The walks over compact.Over where a level has no tables; compact.job at the two tables.
-/
namespace Go.Proofs.Yteclnnjijfbfoaa
open Go.RowKit

set_option maxRecDepth 100000 in
set_option maxHeartbeats 4000000 in
theorem over_none (w : World) (F : Nat → Prop) (tv : Value) (ts : List Tab) (s n m lv : Int) (a b : List UInt8) (h : TsM w F tv ts) (hl : ts.length ≤ 1048576) (h0 : lvT lv ts = []) :
    Calls Try.prog 43 #[.agg #[tv, .int .u64 s, .int .i64 n, .int .i64 m], .int .i64 lv, .string ⟨a.toArray⟩, .string ⟨b.toArray⟩] w fun x w' => x = .returned (.slice none 0 0) ∧ Below w.heap.size w w' := by
  obtain ⟨p, cap, rfl, _⟩ := Cl.form h
  have hz0 := heap_alloc_new w (.cells #[.slice p ts.length cap, .int .u64 s, .int .i64 n, .int .i64 m] 44)
  obtain ⟨X, hX⟩ : ∃ X, w.alloc (.cells #[.slice p ts.length cap, .int .u64 s, .int .i64 n, .int .i64 m] 44) = X := ⟨_, rfl⟩
  have hbX : Below w.heap.size w X := by rw [← hX]; exact belowA _ _
  rw [hX] at hz0
  have hz1 := heap_alloc_new X (.cells #[.string ⟨#[]⟩, .string ⟨#[]⟩] 92)
  obtain ⟨Y, hY⟩ : ∃ Y, X.alloc (.cells #[.string ⟨#[]⟩, .string ⟨#[]⟩] 92) = Y := ⟨_, rfl⟩
  have hbY : Below X.heap.size X Y := by rw [← hY]; exact belowA _ _
  rw [hY] at hz1
  have f0 := frozen_of (i := 0) hz1
  have f1 := frozen_of (i := 1) hz1
  have u0 := cell_of (i := 0) hz1 rfl
  have u1 := cell_of (i := 1) hz1 rfl
  obtain ⟨Z, hZ⟩ : ∃ Z, (Y.setCell ⟨X.heap.size, 0, none⟩ (.string ⟨a.toArray⟩)).setCell ⟨X.heap.size, 1, none⟩ (.string ⟨b.toArray⟩) = Z := ⟨_, rfl⟩
  have hbZ : Below X.heap.size X Z := by rw [← hZ]; exact (hbY.setCell (p := ⟨X.heap.size, 0, none⟩) (Nat.le_refl _) _).setCell (p := ⟨X.heap.size, 1, none⟩) (Nat.le_refl _) _
  have hzZ := (hbZ.block _ (block_lt hz0)).trans hz0
  have v0 := cell_of (i := 0) hzZ rfl
  have v1 := cell_of (i := 1) hzZ rfl
  have v2 := cell_of (i := 2) hzZ rfl
  have v3 := cell_of (i := 3) hzZ rfl
  have HB : Hid (Below w.heap.size w Z) := Lib.hid (hbX.trans (hbZ.mono hbX.size))
  have HC := Lib.hid (at_any Z F (.slice p ts.length cap) ts s n m lv (h.below HB.out) hl)
  rw [h0] at HC
  clear h h0 hz0 hz1 hbX hbY hbZ hzZ
  go_enter Try.func43, Try.ntmps43
  go_wp2_with fail
  refine HC.out.mono ?_
  rintro x w1 ⟨q, c, rfl, _, hb1⟩
  have HB1 : Hid (Below w.heap.size w w1) := Lib.hid (HB.out.trans (hb1.mono HB.out.size))
  clear hb1 HC
  go_wp2_with fail
  refine wp_loop_rounds 1 ?_
  rw [rounds_succ]
  go_wp2_with fail
  go_ret
  exact ⟨rfl, HB1.out⟩

def jbInts (k : Nat) : List Value := if k = 0 then [] else if k = 1 then [.int .i64 1] else [.int .i64 1, .int .i64 2]
/-- What job goes on with. -/
structure JbM (w : World) (base g0 g1 g2 g3 : Nat) (tv : Value) (q : Option Addr) (c : Nat) (wr : World) (k : Nat) (ip : Option Addr) (ic : Nat) : Prop where
  box : wr.heap[g0]? = some (.cells #[tv, .int .u64 0, .int .i64 0, .int .i64 0] 44 (0, 0))
  res : wr.heap[g1]? = some (.cells #[.int .i64 0, .slice none 0 0, .bool false] 58 (0, 0))
  st : wr.heap[g2]? = some (.cells #[.string ⟨#[97]⟩, .string ⟨#[99]⟩] 92 (0, 0))
  jb : wr.heap[g3]? = some (.cells #[.int .i64 0, .slice ip k ic, .bool true] 58 (0, 0))
  ne : g3 ≠ g1
  ints : wr.ownsRow w.heap.size 3 1 (.slice ip k ic) k (jbInts k)
  tab : wr.ownsRow base 49 5 (.slice q 2 c) 2 (cellsTs tabs2)
  tv_ : TsM wr (fun k => k < base) tv tabs2
  bel : Below base w wr
  bas : base ≤ w.heap.size
  b0 : w.heap.size ≤ g0
  b1 : w.heap.size ≤ g1
  b2 : w.heap.size ≤ g2
  b3 : w.heap.size ≤ g3
theorem JbM.after {w wr w' : World} {base g0 g1 g2 g3 : Nat} {tv : Value} {q : Option Addr} {c k : Nat} {ip : Option Addr} {ic : Nat} (h : JbM w base g0 g1 g2 g3 tv q c wr k ip ic) (hb : Below wr.heap.size wr w') : JbM w base g0 g1 g2 g3 tv q c w' k ip ic :=
  ⟨(hb.block _ (block_lt h.box)).trans h.box, (hb.block _ (block_lt h.res)).trans h.res, (hb.block _ (block_lt h.st)).trans h.st, (hb.block _ (block_lt h.jb)).trans h.jb, h.ne, row_keep h.ints fun j hj => hb.block j (row_lt h.ints j hj), row_keep h.tab fun j hj => hb.block j (row_lt h.tab j hj), h.tv_.below hb,
    h.bel.trans (hb.mono (Nat.le_trans h.bas h.bel.size)), h.bas, h.b0, h.b1, h.b2, h.b3⟩
/-- One number more, behind an append and the store into the job. -/
theorem JbM.put {w wr W w3 : World} {base g0 g1 g2 g3 : Nat} {tv : Value} {q : Option Addr} {c k : Nat} {ip p9 : Option Addr} {ic c9 : Nat} (h : JbM w base g0 g1 g2 g3 tv q c wr k ip ic) (hb : Below wr.heap.size wr W)
    (ho : w3.ownsRow w.heap.size 3 1 (.slice p9 (k + 1) c9) (k + 1) (jbInts (k + 1))) (hg : W.grownBy w3 (Value.slice ip k ic).ownBlock) :
    JbM w base g0 g1 g2 g3 tv q c (w3.setCell ⟨g3, 1, none⟩ (.slice p9 (k + 1) c9)) (k + 1) p9 c9 := by
  have hW := h.after hb
  have hne : ∀ {b : Nat} {cs : Array Value} {t : TypeId} {z : Nat × Nat}, W.heap[b]? = some (.cells cs t z) → t ≠ 3 → w3.heap[b]? = W.heap[b]? := fun {b cs t z} h1 h2 => hg.block b (block_lt h1) (fun e => by
    obtain ⟨cur, hc⟩ := row_heap hW.ints e.symm
    exact kind_ne h1 hc h2 rfl)
  have j3 : w3.heap[g3]? = _ := (hne hW.jb (by decide)).trans hW.jb
  have r3 : w3.heap[g1]? = _ := (hne hW.res (by decide)).trans hW.res
  have hbg : Below base W w3 := (Below.refl _ _).grown hg (Nat.le_trans h.bas (Nat.le_trans h.bel.size hb.size)) (fun j hj => Nat.le_trans h.bas (row_low hW.ints j hj))
  have hbs : Below base W (w3.setCell ⟨g3, 1, none⟩ (.slice p9 (k + 1) c9)) := hbg.setCell (p := ⟨g3, 1, none⟩) (Nat.le_trans h.bas h.b3) _
  have hkd : ∀ {b : Nat} {cs : Array Value} {t : TypeId} {z : Nat × Nat}, W.heap[b]? = some (.cells cs t z) → t ≠ 3 → t ≠ 58 → (w3.setCell ⟨g3, 1, none⟩ (.slice p9 (k + 1) c9)).heap[b]? = some (.cells cs t z) := fun {b cs t z} h1 h2 h3 =>
    (setCell_other (kind_ne ((hne h1 h2).trans h1) j3 h3) _).trans ((hne h1 h2).trans h1)
  refine ⟨hkd hW.box (by decide) (by decide), (setCell_other (fun e => h.ne e.symm) _).trans r3, hkd hW.st (by decide) (by decide), by simpa using setCell_same (off := 1) j3 (.slice p9 (k + 1) c9), h.ne, ?_, ?_, ?_, hW.bel.trans (hbs.mono (Nat.le_refl _)), h.bas, h.b0, h.b1, h.b2, h.b3⟩
  · refine row_keep ho fun j hj => setCell_other (fun e => ?_) _
    obtain ⟨cur, hc⟩ := row_heap ho hj
    subst e
    exact kind_ne hc j3 (by decide) rfl
  · refine row_keep hW.tab fun j hj => ?_
    obtain ⟨cur, hc⟩ := row_heap hW.tab hj
    exact (hkd hc (by decide) (by decide)).trans hc.symm
  · exact Cl.step hW.tv_ (Fr.of_below hbs) (fun j _ hj hle => by omega)
end Go.Proofs.Yteclnnjijfbfoaa
