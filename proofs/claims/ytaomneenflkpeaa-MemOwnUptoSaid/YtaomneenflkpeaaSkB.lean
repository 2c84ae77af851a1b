/-
  The walks over a list's height, a node's after, the search for a place (path).
-/
import Derived.Test.YtaomneenflkpeaaSkM
import Derived.Deep.LoopGhost
namespace Go.Proofs.Ytaomneenflkpeaa
open Go.RowKit

set_option maxRecDepth 100000 in
set_option maxHeartbeats 1000000 in
theorem sk_height (w : World) (mb : Nat) (hh c : Nat) (q : Option Addr) (h7 : w.cell? ⟨mb, 7, none⟩ = some (.slice q hh c)) :
    Calls Try.prog 60 #[.pointer (some ⟨mb, 2, none⟩)] w fun r w' => r = .returned (.int .i64 (hh : Int)) ∧ w' = w := by
  go_enter Try.func60, Try.ntmps60
  go_wp2_with fail
  go_ret
  exact ⟨rfl, rfl⟩

set_option maxRecDepth 100000 in
set_option maxHeartbeats 1000000 in
theorem sk_after (w : World) (B O n c : Nat) (q : Option Addr) (v : Value) (h5 : w.cell? ⟨B, O + 5, none⟩ = some (.slice q n c)) (hn : n = 0 → v = .pointer none) (hs : 0 < n → ∃ b, q = some ⟨b, 0, none⟩ ∧ w.cell? ⟨b, 0, none⟩ = some v) :
    Calls Try.prog 45 #[.pointer (some ⟨B, O, none⟩)] w fun r w' => r = .returned v ∧ w' = w := by
  rcases Nat.eq_zero_or_pos n with h0 | h0
  · subst h0
    have hv := hn rfl
    subst hv
    clear hn hs
    go_enter Try.func45, Try.ntmps45
    go_wp2_with fail
    go_ret
    exact ⟨rfl, rfl⟩
  · obtain ⟨b, rfl, hc⟩ := hs h0
    have q1 : ((n : Int) == 0) = false := by simp; omega
    have hlt : (0 : Int) < (n : Int) := by omega
    clear hn hs
    go_enter Try.func45, Try.ntmps45
    go_wp2_with fail
    go_ret
    exact ⟨rfl, rfl⟩

/-- A pointer to the place j. -/
def ptP (mb : Nat) (ns : List Nd) (j : Nat) : Value := .pointer (some ⟨pB mb ns j, pO j, none⟩)
/-- What path tells for level l. -/
def ptL (mb : Nat) (ns : List Nd) (P l : Nat) : Value := ptP mb ns (lst ns l P)
def pathV (mb : Nat) (ns : List Nd) (P : Nat) : Value :=
  .agg #[ptL mb ns P 0, ptL mb ns P 1, ptL mb ns P 2, ptL mb ns P 3, ptL mb ns P 4, ptL mb ns P 5, ptL mb ns P 6, ptL mb ns P 7, ptL mb ns P 8, ptL mb ns P 9, ptL mb ns P 10, ptL mb ns P 11]
def arr12 (f : Nat → Value) : Array Value := #[f 0, f 1, f 2, f 3, f 4, f 5, f 6, f 7, f 8, f 9, f 10, f 11]
theorem arr12_set (f : Nat → Value) (l : Nat) (hl : l < 12) (v : Value) : (arr12 f).setIfInBounds l v = arr12 fun k => if k = l then v else f k := by
  rcases l with _ | _ | _ | _ | _ | _ | _ | _ | _ | _ | _ | _ | l <;> first | omega | rfl
theorem arr12_congr {f g : Nat → Value} (h : ∀ l, l < 12 → f l = g l) : arr12 f = arr12 g := by
  unfold arr12
  rw [h 0 (by omega), h 1 (by omega), h 2 (by omega), h 3 (by omega), h 4 (by omega), h 5 (by omega), h 6 (by omega), h 7 (by omega), h 8 (by omega), h 9 (by omega), h 10 (by omega), h 11 (by omega)]

def set12 (w : World) (g : Nat) (f : Nat → Value) : World := (((((((((((w.setCell ⟨g, 0, none⟩ (f 0)).setCell ⟨g, 1, none⟩ (f 1)).setCell ⟨g, 2, none⟩ (f 2)).setCell ⟨g, 3, none⟩ (f 3)).setCell ⟨g, 4, none⟩ (f 4)).setCell ⟨g, 5, none⟩ (f 5)).setCell ⟨g, 6, none⟩ (f 6)).setCell ⟨g, 7, none⟩ (f 7)).setCell ⟨g, 8, none⟩ (f 8)).setCell ⟨g, 9, none⟩ (f 9)).setCell ⟨g, 10, none⟩ (f 10)).setCell ⟨g, 11, none⟩ (f 11)
theorem set12_heap {w : World} {g : Nat} {e f : Nat → Value} {t : TypeId} {fz : Nat × Nat} (h0 : w.heap[g]? = some (.cells (arr12 e) t fz)) : (set12 w g f).heap[g]? = some (.cells (arr12 f) t fz) := by
  have h1 := setCell_same (off := 0) h0 (f 0)
  rw [arr12_set _ 0 (by omega)] at h1
  have h2 := setCell_same (off := 1) h1 (f 1)
  rw [arr12_set _ 1 (by omega)] at h2
  have h3 := setCell_same (off := 2) h2 (f 2)
  rw [arr12_set _ 2 (by omega)] at h3
  have h4 := setCell_same (off := 3) h3 (f 3)
  rw [arr12_set _ 3 (by omega)] at h4
  have h5 := setCell_same (off := 4) h4 (f 4)
  rw [arr12_set _ 4 (by omega)] at h5
  have h6 := setCell_same (off := 5) h5 (f 5)
  rw [arr12_set _ 5 (by omega)] at h6
  have h7 := setCell_same (off := 6) h6 (f 6)
  rw [arr12_set _ 6 (by omega)] at h7
  have h8 := setCell_same (off := 7) h7 (f 7)
  rw [arr12_set _ 7 (by omega)] at h8
  have h9 := setCell_same (off := 8) h8 (f 8)
  rw [arr12_set _ 8 (by omega)] at h9
  have h10 := setCell_same (off := 9) h9 (f 9)
  rw [arr12_set _ 9 (by omega)] at h10
  have h11 := setCell_same (off := 10) h10 (f 10)
  rw [arr12_set _ 10 (by omega)] at h11
  have h12 := setCell_same (off := 11) h11 (f 11)
  rw [arr12_set _ 11 (by omega)] at h12
  rw [arr12_congr (g := f) (fun l hl => ?_)] at h12
  · exact h12
  · rcases l with _ | _ | _ | _ | _ | _ | _ | _ | _ | _ | _ | _ | l <;> first | omega | rfl
theorem set12_fr (w : World) (g : Nat) (f : Nat → Value) (S : Nat → Prop) (hS : S g) : Fr S w (set12 w g f) :=
  ((((((((((((Fr.setCell S w (p := ⟨g, 0, none⟩) hS (f 0)).then (Fr.setCell S _ (p := ⟨g, 1, none⟩) hS (f 1))).then (Fr.setCell S _ (p := ⟨g, 2, none⟩) hS (f 2))).then (Fr.setCell S _ (p := ⟨g, 3, none⟩) hS (f 3))).then (Fr.setCell S _ (p := ⟨g, 4, none⟩) hS (f 4))).then (Fr.setCell S _ (p := ⟨g, 5, none⟩) hS (f 5))).then (Fr.setCell S _ (p := ⟨g, 6, none⟩) hS (f 6))).then (Fr.setCell S _ (p := ⟨g, 7, none⟩) hS (f 7))).then (Fr.setCell S _ (p := ⟨g, 8, none⟩) hS (f 8))).then (Fr.setCell S _ (p := ⟨g, 9, none⟩) hS (f 9))).then (Fr.setCell S _ (p := ⟨g, 10, none⟩) hS (f 10))).then (Fr.setCell S _ (p := ⟨g, 11, none⟩) hS (f 11)))

theorem SkAt.lt_plc {w : World} {S : Nat → Prop} {mb : Nat} {T : PTb} {sz : Nat} {dv hv : Value} {hh : Nat} {ns : List Nd} {bk : Option Nat} (h : SkAt w S mb T sz dv hv hh ns bk) {x : Ent} {i : Nat} {nd : Nd} (hi : ns[i]? = some nd) (hlt : i < plcE x T.L) : lessE nd.ent x = true := by
  have h1 : T.L[i]? = some nd.ent := by rw [← h.ents, List.getElem?_map, hi]; rfl
  exact takeWhile_lo _ T.L i nd.ent hlt h1
theorem SkAt.ge_plc {w : World} {S : Nat → Prop} {mb : Nat} {T : PTb} {sz : Nat} {dv hv : Value} {hh : Nat} {ns : List Nd} {bk : Option Nat} (h : SkAt w S mb T sz dv hv hh ns bk) {x : Ent} {i : Nat} {nd : Nd} (hi : ns[i]? = some nd) (hge : plcE x T.L ≤ i) : lessE nd.ent x = false := by
  have h1 : T.L[i]? = some nd.ent := by rw [← h.ents, List.getElem?_map, hi]; rfl
  obtain ⟨hil, e1⟩ := List.getElem?_eq_some_iff.1 h1
  have h2 : lessE (T.L[plcE x T.L]'(by omega)) x = false := takeWhile_hi (fun f => lessE f x) T.L _ (List.getElem?_eq_getElem (by show plcE x T.L < _; omega))
  rcases Nat.lt_or_ge (plcE x T.L) i with h3 | h3
  · have h4 := srt_at h.wf.srt hil h3
    rw [e1] at h4
    rcases hq : lessE nd.ent x with _ | _
    · rfl
    · rw [lessE_trans h4 hq] at h2
      cases h2
  · have e2 : plcE x T.L = i := by omega
    rw [← e1]
    simpa [e2] using h2

set_option maxRecDepth 100000 in
set_option maxHeartbeats 4000000 in
theorem sk_path (w : World) (S : Nat → Prop) (mb : Nat) (T : PTb) (sz : Nat) (dv hv : Value) (hh : Nat) (ns : List Nd) (bk : Option Nat) (h : SkAt w S mb T sz dv hv hh ns bk) (x : Ent) :
    Calls Try.prog 44 #[.pointer (some ⟨mb, 2, none⟩), verV x] w fun r w' => r = .returned (pathV mb ns (plcE x T.L)) ∧ Below w.heap.size w w' := by
  obtain ⟨P, hP⟩ : ∃ P, plcE x T.L = P := ⟨_, rfl⟩
  have hPl : P ≤ ns.length := by rw [← h.len, ← hP]; exact plcE_le x T.L
  rw [hP]
  obtain ⟨X, hX⟩ : ∃ X, ((w.alloc (.cells #[.string ⟨x.key.toArray⟩, .int .u64 (x.seq : Int), .bool x.gone, .string ⟨x.val.toArray⟩] 59)).alloc (.cells (arr12 fun _ => .pointer none) 90)).alloc (.cells (arr12 fun _ => .pointer none) 90) = X := ⟨_, rfl⟩
  have hX' := hX
  unfold arr12 at hX'
  have hb : Below w.heap.size w X := by rw [← hX]; exact (((Below.refl _ _).alloc (Nat.le_refl _) _).alloc (by simp) _).alloc (by simp; omega) _
  have hx0 : X.heap[w.heap.size]? = some (.cells #[.string ⟨x.key.toArray⟩, .int .u64 (x.seq : Int), .bool x.gone, .string ⟨x.val.toArray⟩] 59 (0, 0)) := by
    rw [← hX]
    exact (alloc_old (by simp; omega) _).trans ((alloc_old (by simp) _).trans (heap_alloc_new w _))
  have hx1 : X.heap[w.heap.size + 1]? = some (.cells (arr12 fun _ => .pointer none) 90 (0, 0)) := by
    rw [← hX]
    exact (alloc_old (by simp) _).trans (heap_alloc2_new w _ _)
  have hx2 : X.heap[w.heap.size + 2]? = some (.cells (arr12 fun _ => .pointer none) 90 (0, 0)) := by
    rw [← hX]
    have := heap_alloc_new ((w.alloc (.cells #[.string ⟨x.key.toArray⟩, .int .u64 (x.seq : Int), .bool x.gone, .string ⟨x.val.toArray⟩] 59)).alloc (.cells (arr12 fun _ => .pointer none) 90)) (.cells (arr12 fun _ => .pointer none) 90)
    simpa using this
  have HX0 := Lib.hid hx0
  have HX1 := Lib.hid hx1
  have HX2 := Lib.hid hx2
  have HB := Lib.hid hb
  have HX := Lib.hid hX
  have HS := Lib.hid h
  have HP := Lib.hid hP
  have HSz : Hid (X.heap.size = w.heap.size + 3) := Lib.hid (by rw [← hX]; simp)
  clear hb hX hx0 hx1 hx2 h hP
  unfold verV
  go_enter Try.func44, Try.ntmps44
  go_wp2_with fail
  go_loopg [6, 7] 12 (fun m n lv wr => m ≤ 12 ∧ lv = .int .i64 ((m : Int) - 1) ∧ n = ptL mb ns P m ∧ Below w.heap.size w wr ∧ w.heap.size + 3 ≤ wr.heap.size ∧ wr.heap[w.heap.size]? = X.heap[w.heap.size]? ∧ wr.heap[w.heap.size + 1]? = X.heap[w.heap.size + 1]? ∧
    wr.heap[w.heap.size + 2]? = some (.cells (arr12 fun l => if m ≤ l then ptL mb ns P l else .pointer none) 90 (0, 0)))
  case atStart =>
    refine ⟨Nat.le_refl _, rfl, ?_, HB.out, by rw [HSz.out]; omega, rfl, rfl, ?_⟩
    · unfold ptL
      rw [lst_zero (fun nd hnd => (HS.out.h1 nd hnd).2)]
      rfl
    · rw [HX2.out, arr12_congr fun l hl => ?_]
      rw [if_neg (by omega)]
  case round =>
    obtain ⟨hm, rfl, rfl, hbr, hsz, e0, e1, e2⟩ := hrel
    have HBr := Lib.hid hbr
    have HE0 := Lib.hid (e0.trans HX0.out)
    have HE1 := Lib.hid (e1.trans HX1.out)
    have HE2 := Lib.hid e2
    have HSz2 := Lib.hid hsz
    clear hbr e0 e1 e2 hsz
    cases gk with
    | zero =>
      obtain ⟨A, hAd⟩ : ∃ A : Nat → Addr, ∀ l, ptL mb ns P l = .pointer (some (A l)) := ⟨_, fun l => rfl⟩
      have HAd := Lib.hid hAd
      have HA := HE2.out
      rw [arr12_congr (g := fun l => .pointer (some (A l))) (fun l hl => by rw [if_pos (Nat.zero_le _), hAd])] at HA
      have HR := HE1.out
      have HRk := Lib.hid HR
      have a0 : wr.cell? ⟨w.heap.size + 1 + 1, 0, none⟩ = some (.pointer (some (A 0))) := cell_of HA rfl
      have a1 : wr.cell? ⟨w.heap.size + 1 + 1, 1, none⟩ = some (.pointer (some (A 1))) := cell_of HA rfl
      have a2 : wr.cell? ⟨w.heap.size + 1 + 1, 2, none⟩ = some (.pointer (some (A 2))) := cell_of HA rfl
      have a3 : wr.cell? ⟨w.heap.size + 1 + 1, 3, none⟩ = some (.pointer (some (A 3))) := cell_of HA rfl
      have a4 : wr.cell? ⟨w.heap.size + 1 + 1, 4, none⟩ = some (.pointer (some (A 4))) := cell_of HA rfl
      have a5 : wr.cell? ⟨w.heap.size + 1 + 1, 5, none⟩ = some (.pointer (some (A 5))) := cell_of HA rfl
      have a6 : wr.cell? ⟨w.heap.size + 1 + 1, 6, none⟩ = some (.pointer (some (A 6))) := cell_of HA rfl
      have a7 : wr.cell? ⟨w.heap.size + 1 + 1, 7, none⟩ = some (.pointer (some (A 7))) := cell_of HA rfl
      have a8 : wr.cell? ⟨w.heap.size + 1 + 1, 8, none⟩ = some (.pointer (some (A 8))) := cell_of HA rfl
      have a9 : wr.cell? ⟨w.heap.size + 1 + 1, 9, none⟩ = some (.pointer (some (A 9))) := cell_of HA rfl
      have a10 : wr.cell? ⟨w.heap.size + 1 + 1, 10, none⟩ = some (.pointer (some (A 10))) := cell_of HA rfl
      have a11 : wr.cell? ⟨w.heap.size + 1 + 1, 11, none⟩ = some (.pointer (some (A 11))) := cell_of HA rfl
      have z0 := frozen_of (i := 0) HR
      have z1 := frozen_of (i := 1) HR
      have z2 := frozen_of (i := 2) HR
      have z3 := frozen_of (i := 3) HR
      have z4 := frozen_of (i := 4) HR
      have z5 := frozen_of (i := 5) HR
      have z6 := frozen_of (i := 6) HR
      have z7 := frozen_of (i := 7) HR
      have z8 := frozen_of (i := 8) HR
      have z9 := frozen_of (i := 9) HR
      have z10 := frozen_of (i := 10) HR
      have z11 := frozen_of (i := 11) HR
      have y0 : wr.cell? ⟨w.heap.size + 1, 0, none⟩ = some (.pointer none) := cell_of HR rfl
      have y1 : wr.cell? ⟨w.heap.size + 1, 1, none⟩ = some (.pointer none) := cell_of HR rfl
      have y2 : wr.cell? ⟨w.heap.size + 1, 2, none⟩ = some (.pointer none) := cell_of HR rfl
      have y3 : wr.cell? ⟨w.heap.size + 1, 3, none⟩ = some (.pointer none) := cell_of HR rfl
      have y4 : wr.cell? ⟨w.heap.size + 1, 4, none⟩ = some (.pointer none) := cell_of HR rfl
      have y5 : wr.cell? ⟨w.heap.size + 1, 5, none⟩ = some (.pointer none) := cell_of HR rfl
      have y6 : wr.cell? ⟨w.heap.size + 1, 6, none⟩ = some (.pointer none) := cell_of HR rfl
      have y7 : wr.cell? ⟨w.heap.size + 1, 7, none⟩ = some (.pointer none) := cell_of HR rfl
      have y8 : wr.cell? ⟨w.heap.size + 1, 8, none⟩ = some (.pointer none) := cell_of HR rfl
      have y9 : wr.cell? ⟨w.heap.size + 1, 9, none⟩ = some (.pointer none) := cell_of HR rfl
      have y10 : wr.cell? ⟨w.heap.size + 1, 10, none⟩ = some (.pointer none) := cell_of HR rfl
      have y11 : wr.cell? ⟨w.heap.size + 1, 11, none⟩ = some (.pointer none) := cell_of HR rfl
      rw [hAd]
      clear HA HR hAd
      go_wp2_with fail
      (try simp only [Exit.inBlock, Exit.then])
      have hfr := set12_fr wr (w.heap.size + 1) (fun l => .pointer (some (A l))) (fun k => w.heap.size ≤ k) (by omega)
      have hbz := HBr.out.trans (hfr.below HBr.out.size fun k hk hle => by omega)
      have hpv : pathV mb ns P = .agg (arr12 fun l => .pointer (some (A l))) := by
        unfold pathV arr12
        simp only [HAd.out]
      have hz := set12_heap (f := fun l => .pointer (some (A l))) HRk.out
      rw [hpv]
      unfold set12 at hz hbz
      simp only [] at hz hbz
      clear hfr hpv
      refine bodyPost_ret (v := .agg (arr12 fun l => .pointer (some (A l)))) (results_cell_row rfl _ _ (w.heap.size + 1) _ _ (0, 0) _ rfl hz Try.underlying90 rfl (by kernel_rfl)) rfl ⟨rfl, hbz⟩
    | succ lv =>
      rw [show ((lv + 1 : Nat) : Int) - 1 = (lv : Int) by omega]
      have hlv : lv < 12 := by omega
      have k0 := cell_of (i := 0) HE0.out rfl
      have k1 := cell_of (i := 1) HE0.out rfl
      have k2 := cell_of (i := 2) HE0.out rfl
      have k3 := cell_of (i := 3) HE0.out rfl
      obtain ⟨wo, rfl⟩ : ∃ wo : World, wo = wr := ⟨_, rfl⟩
      have HRel : Hid (∀ (V : World) (pt : Value), Below wo.heap.size wo V → pt = ptP mb ns (lst ns lv P) → lv ≤ 12 ∧ Value.int .i64 ((lv : Int) - 1) = .int .i64 ((lv : Int) - 1) ∧ pt = ptL mb ns P lv ∧ Below w.heap.size w (V.setCell ⟨w.heap.size + 1 + 1, lv, none⟩ pt) ∧ w.heap.size + 3 ≤ (V.setCell ⟨w.heap.size + 1 + 1, lv, none⟩ pt).heap.size ∧
          (V.setCell ⟨w.heap.size + 1 + 1, lv, none⟩ pt).heap[w.heap.size]? = X.heap[w.heap.size]? ∧ (V.setCell ⟨w.heap.size + 1 + 1, lv, none⟩ pt).heap[w.heap.size + 1]? = X.heap[w.heap.size + 1]? ∧
          (V.setCell ⟨w.heap.size + 1 + 1, lv, none⟩ pt).heap[w.heap.size + 2]? = some (.cells (arr12 fun l => if lv ≤ l then ptL mb ns P l else .pointer none) 90 (0, 0))) := Lib.hid (fun V pt hV hpt => by
        subst hpt
        have hsz := HSz2.out
        have hVs := hV.size
        have hbV : Below w.heap.size w V := HBr.out.trans (hV.mono HBr.out.size)
        refine ⟨by omega, rfl, rfl, hbV.setCell (p := ⟨w.heap.size + 1 + 1, lv, none⟩) (by show w.heap.size ≤ w.heap.size + 1 + 1; omega) _, by simp [World.setCell]; omega, ?_, ?_, ?_⟩
        · exact (setCell_other (by omega) _).trans ((hV.block _ (by omega)).trans (HE0.out.trans HX0.out.symm))
        · exact (setCell_other (by omega) _).trans ((hV.block _ (by omega)).trans (HE1.out.trans HX1.out.symm))
        · have h1 := setCell_same (off := lv) ((hV.block _ (by omega)).trans HE2.out) (ptP mb ns (lst ns lv P))
          rw [arr12_set _ _ hlv] at h1
          rw [arr12_congr (g := fun l => if lv ≤ l then ptL mb ns P l else .pointer none) (fun l hl => ?_)] at h1
          · exact h1
          · show (if l = lv then ptP mb ns (lst ns lv P) else if lv + 1 ≤ l then ptL mb ns P l else .pointer none) = if lv ≤ l then ptL mb ns P l else .pointer none
            by_cases e : l = lv
            · subst e
              rw [if_pos rfl, if_pos (Nat.le_refl _)]
              rfl
            · rw [if_neg e]
              by_cases e2 : lv + 1 ≤ l
              · rw [if_pos e2, if_pos (by omega)]
              · rw [if_neg e2, if_neg (by omega)])
      have HArr : Hid (∀ V : World, Below wo.heap.size wo V → (∃ u, V.cell? ⟨w.heap.size + 1 + 1, lv, none⟩ = some u) ∧ V.frozen? ⟨w.heap.size + 1 + 1, lv, none⟩ = false) := Lib.hid (fun V hV => by
        have h1 := (hV.block _ (by have := HSz2.out; omega)).trans HE2.out
        refine ⟨⟨_, cell_of h1 (i := lv) (Array.getElem?_eq_getElem (by simp [arr12]; omega))⟩, frozen_of h1⟩)
      unfold ptL
      rw [show ptP mb ns (lst ns (lv + 1) P) = .pointer (some ⟨pB mb ns (lst ns (lv + 1) P), pO (lst ns (lv + 1) P), none⟩) from rfl]
      go_wp2_with fail
      go_loopg [6] (P - lst ns (lv + 1) P) (fun g n wx => ∃ j, j + g = P ∧ j ≤ lst ns lv P ∧ (j = 0 ∨ lv < pH hh ns j) ∧ n = ptP mb ns j ∧ Below wo.heap.size wo wx)
      case atStart =>
        have h1 := lst_le ns (lv + 1) P
        refine ⟨lst ns (lv + 1) P, by omega, lst_mono (by omega), ?_, rfl, Below.refl _ _⟩
        cases e : lst ns (lv + 1) P with
        | zero => exact .inl rfl
        | succ i =>
          obtain ⟨nd, h2, h3⟩ := lst_has ns (lv + 1) P i e
          rw [pH_at h2]
          exact .inr (by omega)
      case round =>
        obtain ⟨j, hj1, hj2, hj3, rfl, hbx⟩ := hrel
        have HE0x := (hbx.block _ (by have := HSz2.out; omega)).trans HE0.out
        have k0 := cell_of (i := 0) HE0x rfl
        have k1 := cell_of (i := 1) HE0x rfl
        have k2 := cell_of (i := 2) HE0x rfl
        have k3 := cell_of (i := 3) HE0x rfl
        have hbw : Below w.heap.size w wr := HBr.out.trans (hbx.mono HBr.out.size)
        have HSx := Lib.hid (HS.out.after hbw)
        have HBx := Lib.hid hbx
        have hjn : j ≤ ns.length := by omega
        obtain ⟨q, c, h5, h12, hc1, hc2, hBlt, hcl⟩ := HSx.out.tow hjn
        have HSt := Lib.hid (lst_step hj2)
        have HLe := Lib.hid (lst_le ns lv P)
        have HPt : Hid (ptP mb ns j = .pointer (some ⟨pB mb ns j, pO j, none⟩)) := Lib.hid rfl
        have HNo : Hid (¬ lv < pH hh ns j → j = lst ns lv P) := Lib.hid (fun hn => by
          rcases hj3 with rfl | h3
          · rw [lst_zero (fun nd hnd => ?_)]
            have := HSx.out.hle nd hnd
            have e : pH hh ns 0 = hh := rfl
            omega
          · exact absurd h3 hn)
        generalize pB mb ns j = B at *
        generalize pO j = O at *
        generalize pH hh ns j = n at *
        rw [HPt.out]
        clear hbx hbw hj2 hj3 hBlt HE0x
        by_cases hlt : lv < n
        · obtain ⟨b, rfl, hcb⟩ := hcl lv hlt
          have q1 : decide ((lv : Int) < (n : Int)) = true := decide_eq_true (by omega)
          have q1n : decide (lv < n) = true := decide_eq_true hlt
          clear hcl
          rcases HSt.out with ⟨rfl, hn | ⟨i, nd, hi1, hi2, hi3, hn⟩⟩ | ⟨i, nd, hi1, hi2, hi3, hi4, hi5, hn⟩
          · rw [hn] at hcb
            unfold pv at hcb
            simp only [Option.map_none] at hcb
            obtain ⟨⟨u, a0⟩, z0⟩ := HArr.out wr HBx.out
            clear hn
            go_wp2_with fail
            go_quiet (fail)
            go_wp2_with fail
            go_roundg lv
            case measure => omega
            case rel => obtain ⟨r1, _, r3, r4⟩ := HRel.out _ _ (below_drewN HBx.out _) HPt.out.symm; exact ⟨r1, rfl, r3, r4⟩
          · rw [hn] at hcb
            unfold pv at hcb
            simp only [Option.map_some] at hcb
            have hnb := (HSx.out.lk.nb i nd hi2).2
            have d0 := cell_of (i := 0) hnb rfl
            have d1 := cell_of (i := 1) hnb rfl
            have d2 := cell_of (i := 2) hnb rfl
            have d3 := cell_of (i := 3) hnb rfl
            have HC := Lib.hid (ver_compare wr.drew nd.ent x)
            unfold verV at HC
            clear hnb hn
            go_wp2_with fail
            refine wp_region_quiet_tail 30 (by kernel_rfl) (by kernel_rfl) ?_
            simp only [List.take_succ_cons, List.take_zero, List.drop_succ_cons, List.drop_zero]
            repeat (go_big_quiet_step (fail))
            refine wpQuiet_nil ?_
            have hcm : decide (cmpE nd.ent x < 0) = false := decide_eq_false (fun hc => by
              have h1 := cmpE_neg.1 hc
              rw [HS.out.ge_plc hi2 (by rw [HP.out]; exact hi1)] at h1
              cases h1)
            clear d0 d1 d2 d3 k0 k1 k2 k3
            generalize cmpE nd.ent x = cm at *
            go_wp2_with fail
            refine HC.out.mono ?_
            rintro r w2 ⟨rfl, hb2⟩
            have hb2w := (below_drew HBx.out).trans (hb2.mono HBx.out.size)
            have HB2 := Lib.hid hb2w
            obtain ⟨⟨u, a0⟩, z0⟩ := HArr.out w2 hb2w
            clear hb2 hb2w
            go_wp2_with fail
            go_roundg lv
            case measure => omega
            case rel => obtain ⟨r1, _, r3, r4⟩ := HRel.out _ _ HB2.out HPt.out.symm; exact ⟨r1, rfl, r3, r4⟩
          · rw [hn] at hcb
            unfold pv at hcb
            simp only [Option.map_some] at hcb
            have hnb := (HSx.out.lk.nb i nd hi3).2
            have d0 := cell_of (i := 0) hnb rfl
            have d1 := cell_of (i := 1) hnb rfl
            have d2 := cell_of (i := 2) hnb rfl
            have d3 := cell_of (i := 3) hnb rfl
            have HC := Lib.hid (ver_compare wr.drew nd.ent x)
            unfold verV at HC
            have HH : Hid (lv < pH hh ns (i + 1)) := Lib.hid (by rw [pH_at hi3]; exact hi4)
            have HPn : Hid (Value.pointer (some ⟨nd.blk, 0, none⟩) = ptP mb ns (i + 1)) := Lib.hid (by unfold ptP; rw [pB_at hi3]; rfl)
            have HI : Hid (i + 1 ≤ lst ns lv P ∧ i < P ∧ j ≤ i ∧ j + gk = P) := Lib.hid ⟨hi5, hi2, hi1, hj1⟩
            have hcm : decide (cmpE nd.ent x < 0) = true := decide_eq_true (cmpE_neg.2 (HS.out.lt_plc hi3 (by rw [HP.out]; exact hi2)))
            have h5' := h5
            clear hnb hn d0 d1 d2 d3
            have d0 := cell_of (i := 0) (HSx.out.lk.nb i nd hi3).2 rfl
            have d1 := cell_of (i := 1) (HSx.out.lk.nb i nd hi3).2 rfl
            have d2 := cell_of (i := 2) (HSx.out.lk.nb i nd hi3).2 rfl
            have d3 := cell_of (i := 3) (HSx.out.lk.nb i nd hi3).2 rfl
            clear h5' hi1 hi2 hi5 hj1
            generalize cmpE nd.ent x = cm at *
            go_wp2_with fail
            refine wp_region_quiet_tail 30 (by kernel_rfl) (by kernel_rfl) ?_
            simp only [List.take_succ_cons, List.take_zero, List.drop_succ_cons, List.drop_zero]
            repeat (go_big_quiet_step (fail))
            refine wpQuiet_nil ?_
            clear d0 d1 d2 d3 k0 k1 k2 k3
            go_wp2_with fail
            refine HC.out.mono ?_
            rintro r w2 ⟨rfl, hb2⟩
            have hb2w := (below_drew HBx.out).trans (hb2.mono HBx.out.size)
            have HB2 := Lib.hid hb2w
            have h5b := (hb2.cell (p := ⟨B, O + 5, none⟩) (cell_lt h5)).trans h5
            have hcbb := (hb2.cell (p := ⟨b, lv, none⟩) (cell_lt hcb)).trans hcb
            clear hb2 hb2w h5 hcb
            go_wp2_with fail
            go_roundg (P - (i + 1))
            case measure => have := HI.out; omega
            case rel => have := HI.out; exact ⟨i + 1, by omega, this.1, .inr HH.out, HPn.out, HB2.out⟩
        · have q1 : decide ((lv : Int) < (n : Int)) = false := decide_eq_false (by omega)
          have q1n : decide (lv < n) = false := decide_eq_false hlt
          obtain rfl := HNo.out hlt
          obtain ⟨⟨u, a0⟩, z0⟩ := HArr.out wr HBx.out
          clear hcl hlt
          go_wp2_with fail
          go_quiet (fail)
          go_wp2_with fail
          go_roundg lv
          case measure => omega
          case rel => obtain ⟨r1, _, r3, r4⟩ := HRel.out _ _ (below_drewN HBx.out _) HPt.out.symm; exact ⟨r1, rfl, r3, r4⟩
end Go.Proofs.Ytaomneenflkpeaa
