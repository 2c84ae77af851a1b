/-
  The walk over a list's put.
-/
import Derived.Test.YtaomneenflkpeaaSkK
namespace Go.Proofs.Ytaomneenflkpeaa
open Go.RowKit

/-- How put has turned the nodes and the row of changes. -/
def PutTo (w' : World) (ns ns' : List Nd) (bk bk' : Option Nat) (P : Nat) (x : Ent) : Bool → Prop
  | false => ∃ nd, ns' = insN ns P nd ∧ nd.num = ns.length ∧ (bk = none ∨ bk' = bk)
  | true => ∃ nd b nb, ns[P]? = some nd ∧ ns' = ns.set P (setE nd x) ∧ bk = some b ∧ bk' = some nb ∧ w'.heap[b]? = some (.cells (chC nd.num nd.ent (some nb)) 113 (0, 0))
theorem PutTo.step {w w' : World} {ns ns' : List Nd} {bk bk' : Option Nat} {P : Nat} {x : Ent} {fd : Bool} (h : PutTo w ns ns' bk bk' P x fd) {R : Nat → Prop} (hf : Fr R w w') (hR : ∀ b, bk = some b → ¬ R b) : PutTo w' ns ns' bk bk' P x fd := by
  cases fd with
  | false => exact h
  | true =>
    obtain ⟨nd, b, nb, h1, h2, h3, h4, h5⟩ := h
    exact ⟨nd, b, nb, h1, h2, h3, h4, hf.keep h5 (hR b h3)⟩
def wasE (T : PTb) (x : Ent) : Ent := if foundE x T.L = true then T.L.getD (plcE x T.L) noE else noE

theorem results_verB {fn : Func} {p u : Tmp} (h : fn.results = #[.cell p 59, .tmp u]) (tmps : Array Value) (w : World) (g : Nat) (cs : Array Value) (b : Value) (hp : tmps.getD p undef = .pointer (some ⟨g, 0, none⟩)) (hb : tmps.getD u undef = b)
    (hg : w.heap[g]? = some (.cells cs 59 (0, 0))) (hs : cs.size = 4) : (results fn tmps).run Try.prog w = .ok (.tuple #[.agg cs, b]) w := by
  have hl := run_loadVar_row (P := Try.prog) w g _ 59 cs (0, 0) _ hg Try.underlying59 rfl (by rw [hs]; kernel_rfl)
  rw [results_cell_tmp h, hp, hb]
  simp [asAddr, Result.andThen, hl]

theorem sk_after_at (w : World) (S : Nat → Prop) (mb : Nat) (T : PTb) (sz : Nat) (dv hv : Value) (hh : Nat) (ns : List Nd) (bk : Option Nat) (h : SkAt w S mb T sz dv hv hh ns bk) {P : Nat} (hPl : P ≤ ns.length) :
    Calls Try.prog 45 #[.pointer (some ⟨pB mb ns P, pO P, none⟩)] w fun r w' => r = .returned (pv (ndAt ns P)) ∧ w' = w := by
  obtain ⟨q, c, h5, h12, hc1, hc2, hBlt, hcl⟩ := h.tow hPl
  refine sk_after w (pB mb ns P) (pO P) (pH hh ns P) c q (pv (ndAt ns P)) h5 (fun h0 => ?_) (fun h0 => ?_)
  · have : ns[P]? = none := by
      cases P with
      | zero =>
        have e0 : hh = 0 := h0
        cases e : ns[0]? with
        | none => rfl
        | some nd =>
          have h1 := h.h1 nd (List.mem_of_getElem? e)
          have h2 := h.hle nd (List.mem_of_getElem? e)
          omega
      | succ i =>
        have hi : ns[i]? = some ns[i] := List.getElem?_eq_getElem (by omega)
        rw [pH_at hi] at h0
        have h1 := h.h1 _ (List.getElem_mem (show i < ns.length by omega))
        omega
    unfold ndAt
    rw [this]
    rfl
  · obtain ⟨b, e1, e2⟩ := hcl 0 h0
    rw [nxt_zero (fun nd hnd => (h.h1 nd hnd).1) P] at e2
    exact ⟨b, e1, e2⟩

set_option maxRecDepth 100000 in
set_option maxHeartbeats 4000000 in
theorem sk_put_ (w : World) (S : Nat → Prop) (mb : Nat) (T : PTb) (sz : Nat) (dv hv : Value) (hh : Nat) (ns : List Nd) (bk : Option Nat) (h : SkAt w S mb T sz dv hv hh ns bk) (x : Ent) (hx : FitE x) (ho : oneE x = true) (n : Nat) (hn : (n : Int) = tow T) (hl : ns.length ≤ 1048576) (hSl : ∀ k, S k → k < w.heap.size) :
    Calls Try.prog 26 #[.pointer (some ⟨mb, 2, none⟩), verV x, .int .i64 (n : Int)] w fun r w' => r = .returned (.tuple #[verV (wasE T x), .bool (foundE x T.L)]) ∧
      (∃ hv' ns' bk', SkAt w' (More S w.heap.size) mb (putT T x) sz dv hv' (if foundE x T.L = true then hh else max hh n) ns' bk' ∧ PutTo w' ns ns' bk bk' (plcE x T.L) x (foundE x T.L)) ∧ Fr S w w' := by
  obtain ⟨P, hP⟩ : ∃ P, plcE x T.L = P := ⟨_, rfl⟩
  have hPl : P ≤ ns.length := by rw [← h.len, ← hP]; exact plcE_le x T.L
  have hpa := fun W (hb : Below w.heap.size w W) => sk_path W S mb T sz dv hv hh ns bk (h.after hb) x
  rw [hP] at hpa
  obtain ⟨A, hAd⟩ : ∃ A : Nat → Addr, ∀ l, ptL mb ns P l = .pointer (some (A l)) := ⟨_, fun l => rfl⟩
  have hA : pathV mb ns P = .agg #[.pointer (some (A 0)), .pointer (some (A 1)), .pointer (some (A 2)), .pointer (some (A 3)), .pointer (some (A 4)), .pointer (some (A 5)), .pointer (some (A 6)), .pointer (some (A 7)), .pointer (some (A 8)), .pointer (some (A 9)), .pointer (some (A 10)), .pointer (some (A 11))] := by
    unfold pathV
    simp only [hAd]
  have hA0 : A 0 = ⟨pB mb ns P, pO P, none⟩ := by
    have h1 := hAd 0
    unfold ptL ptP at h1
    rw [lst_all (fun nd hnd => (h.h1 nd hnd).1) hPl] at h1
    injection h1 with h1
    exact (Option.some.inj h1).symm
  obtain ⟨X, hX⟩ : ∃ X, (w.alloc (.cells #[.string ⟨x.key.toArray⟩, .int .u64 (x.seq : Int), .bool x.gone, .string ⟨x.val.toArray⟩] 59)).alloc (.cells #[.string ⟨#[]⟩, .int .u64 0, .bool false, .string ⟨#[]⟩] 59) = X := ⟨_, rfl⟩
  have hb : Below w.heap.size w X := by rw [← hX]; exact ((Below.refl _ _).alloc (Nat.le_refl _) _).alloc (by simp) _
  have hXs : X.heap.size = w.heap.size + 2 := by rw [← hX]; simp
  have hx0 : X.heap[w.heap.size]? = some (.cells #[.string ⟨x.key.toArray⟩, .int .u64 (x.seq : Int), .bool x.gone, .string ⟨x.val.toArray⟩] 59 (0, 0)) := by
    rw [← hX]
    exact (alloc_old (by simp) _).trans (heap_alloc_new w _)
  have hx1 : X.heap[w.heap.size + 1]? = some (.cells #[.string ⟨#[]⟩, .int .u64 0, .bool false, .string ⟨#[]⟩] 59 (0, 0)) := by
    rw [← hX]
    exact heap_alloc2_new w _ _
  have k0 := cell_of (i := 0) hx0 rfl
  have k1 := cell_of (i := 1) hx0 rfl
  have k2 := cell_of (i := 2) hx0 rfl
  have k3 := cell_of (i := 3) hx0 rfl
  have HPath := Lib.hid (hpa X hb)
  rw [hA] at HPath
  have HA := Lib.hid hA
  have HA0 := Lib.hid hA0
  have HS := Lib.hid h
  have HB := Lib.hid hb
  have HX0 := Lib.hid hx0
  have HX1 := Lib.hid hx1
  have HXs := Lib.hid hXs
  have HP := Lib.hid hP
  have HPl := Lib.hid hPl
  have HFx := Lib.hid hx
  have HOx := Lib.hid ho
  have HN := Lib.hid hn
  have HL := Lib.hid hl
  have HSl := Lib.hid hSl
  rw [hP]
  obtain ⟨fd, hfd⟩ : ∃ fd, foundE x T.L = fd := ⟨_, rfl⟩
  rw [hfd]
  have HFd := Lib.hid hfd
  have HNode : Hid (∀ nd, ns[P]? = some nd → fd = atE nd.ent x) := Lib.hid (fun nd hnd => by
    rw [← hfd]
    unfold foundE
    rw [HP.out, ← HS.out.ents, List.getElem?_map, hnd]
    rfl)
  have HNone : Hid (ns[P]? = none → fd = false) := Lib.hid (fun hnd => by
    rw [← hfd]
    unfold foundE
    rw [HP.out, ← HS.out.ents, List.getElem?_map, hnd]
    rfl)
  clear hfd hb hXs hx0 hx1 h hpa hAd hA hA0 hP hPl hx ho hn hl hSl
  unfold verV at HPath ⊢
  go_enter Try.func26, Try.ntmps26
  go_wp2_with fail
  refine HPath.out.mono ?_
  rintro r w1 ⟨rfl, hb1⟩
  obtain ⟨Y, hY⟩ : ∃ Y, w1.alloc (.cells #[.pointer (some (A 0)), .pointer (some (A 1)), .pointer (some (A 2)), .pointer (some (A 3)), .pointer (some (A 4)), .pointer (some (A 5)), .pointer (some (A 6)), .pointer (some (A 7)), .pointer (some (A 8)), .pointer (some (A 9)), .pointer (some (A 10)), .pointer (some (A 11))] 90) = Y := ⟨_, rfl⟩
  have hYa : Y.heap[w1.heap.size]? = some (.cells #[.pointer (some (A 0)), .pointer (some (A 1)), .pointer (some (A 2)), .pointer (some (A 3)), .pointer (some (A 4)), .pointer (some (A 5)), .pointer (some (A 6)), .pointer (some (A 7)), .pointer (some (A 8)), .pointer (some (A 9)), .pointer (some (A 10)), .pointer (some (A 11))] 90 (0, 0)) := by
    rw [← hY]
    exact heap_alloc_new w1 _
  have hbY1 : Below X.heap.size X Y := by rw [← hY]; exact hb1.alloc hb1.size _
  have hbY : Below w.heap.size w Y := HB.out.trans (hbY1.mono HB.out.size)
  have HAft := Lib.hid (sk_after_at Y S mb T sz dv hv hh ns bk (HS.out.after hbY) HPl.out)
  rw [← HA0.out] at HAft
  have HYa := Lib.hid hYa
  have HSY := Lib.hid (HS.out.after hbY)
  have hxs := HXs.out
  have HY0 := Lib.hid ((hbY1.block _ (by omega)).trans HX0.out)
  have HY1 := Lib.hid ((hbY1.block _ (by omega)).trans HX1.out)
  have HBY := Lib.hid hbY
  have HWs : Hid (w.heap.size + 2 ≤ w1.heap.size) := Lib.hid (by have := hb1.size; omega)
  have a0 : Y.cell? ⟨w1.heap.size, 0, none⟩ = some (.pointer (some (A 0))) := cell_of hYa rfl
  clear hb1 hYa hbY1 hbY hxs k0 k1 k2 k3
  go_wp2_with fail
  refine HAft.out.mono ?_
  rintro r wh ⟨rfl, hwh⟩
  replace hwh := hwh.symm
  subst hwh
  clear hY a0
  cases hnd : ns[P]? with
  | none =>
    have hf := HNone.out hnd
    subst hf
    have hna : ndAt ns P = none := by unfold ndAt; rw [hnd]; rfl
    rw [hna]
    unfold pv
    simp only [Option.map_none]
    have k0 := cell_of (i := 0) HY0.out rfl
    have k1 := cell_of (i := 1) HY0.out rfl
    have k2 := cell_of (i := 2) HY0.out rfl
    have k3 := cell_of (i := 3) HY0.out rfl
    clear hna hnd
    go_wp2_with fail
    go_quiet (fail)
    have HBc : Hid (Below Y.heap.size Y (Y.drewN nq)) := Lib.hid (below_drewN (Below.refl _ _) _)
    obtain ⟨wa, hwa⟩ : ∃ wa, Y.drewN nq = wa := ⟨_, rfl⟩
    rw [hwa] at HBc
    clear k0 k1 k2 k3
    · skip
      have hys := block_lt HYa.out
      have hws := HWs.out
      have HAa := Lib.hid ((HBc.out.block w1.heap.size hys).trans HYa.out)
      have HKw := Lib.hid ((HBc.out.block w.heap.size (by omega)).trans HY0.out)
      have HR := Lib.hid ((HBc.out.block (w.heap.size + 1) (by omega)).trans HY1.out)
      have hbwa : Below w.heap.size w wa := HBY.out.trans (HBc.out.mono HBY.out.size)
      have HSa := Lib.hid (HS.out.after hbwa)
      have HBwa := Lib.hid hbwa
      have k0 := cell_of (i := 0) HKw.out rfl
      have k1 := cell_of (i := 1) HKw.out rfl
      have k2 := cell_of (i := 2) HKw.out rfl
      have k3 := cell_of (i := 3) HKw.out rfl
      clear hbwa hys hws
      have a0 : wa.cell? ⟨w1.heap.size, 0, none⟩ = some (.pointer (some (A 0))) := cell_of HAa.out rfl
      have a1 : wa.cell? ⟨w1.heap.size, 1, none⟩ = some (.pointer (some (A 1))) := cell_of HAa.out rfl
      have a2 : wa.cell? ⟨w1.heap.size, 2, none⟩ = some (.pointer (some (A 2))) := cell_of HAa.out rfl
      have a3 : wa.cell? ⟨w1.heap.size, 3, none⟩ = some (.pointer (some (A 3))) := cell_of HAa.out rfl
      have a4 : wa.cell? ⟨w1.heap.size, 4, none⟩ = some (.pointer (some (A 4))) := cell_of HAa.out rfl
      have a5 : wa.cell? ⟨w1.heap.size, 5, none⟩ = some (.pointer (some (A 5))) := cell_of HAa.out rfl
      have a6 : wa.cell? ⟨w1.heap.size, 6, none⟩ = some (.pointer (some (A 6))) := cell_of HAa.out rfl
      have a7 : wa.cell? ⟨w1.heap.size, 7, none⟩ = some (.pointer (some (A 7))) := cell_of HAa.out rfl
      have a8 : wa.cell? ⟨w1.heap.size, 8, none⟩ = some (.pointer (some (A 8))) := cell_of HAa.out rfl
      have a9 : wa.cell? ⟨w1.heap.size, 9, none⟩ = some (.pointer (some (A 9))) := cell_of HAa.out rfl
      have a10 : wa.cell? ⟨w1.heap.size, 10, none⟩ = some (.pointer (some (A 10))) := cell_of HAa.out rfl
      have a11 : wa.cell? ⟨w1.heap.size, 11, none⟩ = some (.pointer (some (A 11))) := cell_of HAa.out rfl
      have HIns := Lib.hid (sk_insert wa S mb T sz dv hv hh ns bk HSa.out x HFx.out HOx.out HFd.out n HN.out HL.out)
      rw [HP.out, HA.out] at HIns
      unfold verV at HIns
      have HWas : Hid (wasE T x = noE) := Lib.hid (by unfold wasE; rw [HFd.out]; rfl)
      go_wp2_with fail
      refine HIns.out.mono ?_
      rintro r we ⟨rfl, ⟨hv2, bk2, nd2, hs2, hn2, hb2⟩, hf2⟩
      have hsz := HBwa.out.size
      have hRe := hf2.keep HR.out (fun hk => by have := HSl.out _ hk; omega)
      have r0 := cell_of (i := 0) hRe rfl
      have r1 := cell_of (i := 1) hRe rfl
      have r2 := cell_of (i := 2) hRe rfl
      have r3 := cell_of (i := 3) hRe rfl
      have z0 := frozen_of (i := 0) hRe
      have z1 := frozen_of (i := 1) hRe
      have z2 := frozen_of (i := 2) hRe
      have z3 := frozen_of (i := 3) hRe
      obtain ⟨V, hV⟩ : ∃ V, we.alloc (.cells #[.string ⟨#[]⟩, .int .u64 0, .bool false, .string ⟨#[]⟩] 59) = V := ⟨_, rfl⟩
      have hbV : Below we.heap.size we V := by rw [← hV]; exact (Below.refl _ _).alloc (Nat.le_refl _) _
      have hRV := (hbV.block _ (block_lt hRe)).trans hRe
      have hNV : V.heap[we.heap.size]? = some (.cells #[.string ⟨#[]⟩, .int .u64 0, .bool false, .string ⟨#[]⟩] 59 (0, 0)) := by rw [← hV]; exact heap_alloc_new we _
      have n0 := cell_of (i := 0) hNV rfl
      have n1 := cell_of (i := 1) hNV rfl
      have n2 := cell_of (i := 2) hNV rfl
      have n3 := cell_of (i := 3) hNV rfl
      have v0 := cell_of (i := 0) hRV rfl
      have v1 := cell_of (i := 1) hRV rfl
      have v2 := cell_of (i := 2) hRV rfl
      have v3 := cell_of (i := 3) hRV rfl
      have x0 := frozen_of (i := 0) hRV
      have x1 := frozen_of (i := 1) hRV
      have x2 := frozen_of (i := 2) hRV
      have x3 := frozen_of (i := 3) hRV
      have hsz2 := hf2.size
      have hsz3 := (block_lt HR.out : w.heap.size + 1 < wa.heap.size)
      have hfr := set4_fr V (w.heap.size + 1) (.string ⟨#[]⟩) (.int .u64 0) (.bool false) (.string ⟨#[]⟩) (fun k => k = w.heap.size + 1) rfl
      have hfz := set4_heap hRV (.string ⟨#[]⟩) (.int .u64 0) (.bool false) (.string ⟨#[]⟩)
      have hwe : Fr (fun k => S k) w we := (Fr.of_new HBwa.out _).then hf2
      have hweZ : Fr (fun k => w.heap.size ≤ k) we (set4 V (w.heap.size + 1) (.string ⟨#[]⟩) (.int .u64 0) (.bool false) (.string ⟨#[]⟩)) := (Fr.of_new hbV _).then (hfr.mono fun k _ e => by omega)
      unfold set4 at hfz hweZ
      have HFz := Lib.hid hfz
      have hZ4 : Fr (fun k => k = w.heap.size + 1) V (set4 V (w.heap.size + 1) (.string ⟨#[]⟩) (.int .u64 0) (.bool false) (.string ⟨#[]⟩)) := hfr
      have hSk := (hs2.after hbV).step (S' := More S w.heap.size) hZ4 (fun k _ hk e => by
        rcases hk with hk | hk
        · have := HSl.out k hk; omega
        · omega) (fun k _ hk => hk.elim (fun h => .inl h) (fun h => .inr (by omega)))
      have hFin := hwe.trans (hweZ.mono fun k _ hk => .inr hk)
      unfold set4 at hSk
      have HRes := Lib.hid (And.intro hSk hFin)
      clear hRe hbV hRV hNV hfr hwe hweZ hs2 hf2 hZ4 hSk hFin hfz
      go_wp2_with fail
      refine bodyPost_ret (v := .tuple #[.agg #[.string ⟨#[]⟩, .int .u64 0, .bool false, .string ⟨#[]⟩], .bool false]) (results_verB rfl _ _ (w.heap.size + 1) _ _ rfl rfl HFz.out rfl) rfl ⟨?_, ⟨hv2, insN ns P nd2, bk2, ?_, nd2, rfl, hn2, hb2⟩, HRes.out.2⟩
      · rw [HWas.out]
        rfl
      · exact HRes.out.1
  | some nd =>
    have hf := HNode.out nd hnd
    have hna : ndAt ns P = some nd.blk := by unfold ndAt; rw [hnd]; rfl
    rw [hna]
    unfold pv
    simp only [Option.map_some]
    have k0 := cell_of (i := 0) HY0.out rfl
    have k1 := cell_of (i := 1) HY0.out rfl
    have k2 := cell_of (i := 2) HY0.out rfl
    have k3 := cell_of (i := 3) HY0.out rfl
    have hnB := (HSY.out.lk.nb P nd hnd).2
    have d0 := cell_of (i := 0) hnB rfl
    have d1 := cell_of (i := 1) hnB rfl
    have d2 := cell_of (i := 2) hnB rfl
    have d3 := cell_of (i := 3) hnB rfl
    have HC := Lib.hid (ver_compare Y.drew nd.ent x)
    unfold verV at HC
    have HQ : Hid ((cmpE nd.ent x == 0) = fd) := Lib.hid (by rw [hf, Bool.eq_iff_iff, beq_iff_eq]; exact cmpE_zero)
    have HNd := Lib.hid hnd
    generalize cmpE nd.ent x = cm at *
    clear hf hna hnB hnd
    go_wp2_with fail
    refine wp_region_quiet_tail 9 (by kernel_rfl) (by kernel_rfl) ?_
    simp only [List.take_succ_cons, List.take_zero, List.drop_succ_cons, List.drop_zero]
    repeat (go_big_quiet_step (fail))
    refine wpQuiet_nil ?_
    clear d0 d1 d2 d3 k0 k1 k2 k3
    go_wp2_with fail
    refine HC.out.mono ?_
    rintro r wa ⟨rfl, hb2⟩
    have HBc : Hid (Below Y.heap.size Y wa) := Lib.hid ((below_drew (Below.refl _ _)).trans hb2)
    clear hb2
    have hq := HQ.out
    cases fd
    · skip
      have hys := block_lt HYa.out
      have hws := HWs.out
      have HAa := Lib.hid ((HBc.out.block w1.heap.size hys).trans HYa.out)
      have HKw := Lib.hid ((HBc.out.block w.heap.size (by omega)).trans HY0.out)
      have HR := Lib.hid ((HBc.out.block (w.heap.size + 1) (by omega)).trans HY1.out)
      have hbwa : Below w.heap.size w wa := HBY.out.trans (HBc.out.mono HBY.out.size)
      have HSa := Lib.hid (HS.out.after hbwa)
      have HBwa := Lib.hid hbwa
      have k0 := cell_of (i := 0) HKw.out rfl
      have k1 := cell_of (i := 1) HKw.out rfl
      have k2 := cell_of (i := 2) HKw.out rfl
      have k3 := cell_of (i := 3) HKw.out rfl
      clear hbwa hys hws
      have a0 : wa.cell? ⟨w1.heap.size, 0, none⟩ = some (.pointer (some (A 0))) := cell_of HAa.out rfl
      have a1 : wa.cell? ⟨w1.heap.size, 1, none⟩ = some (.pointer (some (A 1))) := cell_of HAa.out rfl
      have a2 : wa.cell? ⟨w1.heap.size, 2, none⟩ = some (.pointer (some (A 2))) := cell_of HAa.out rfl
      have a3 : wa.cell? ⟨w1.heap.size, 3, none⟩ = some (.pointer (some (A 3))) := cell_of HAa.out rfl
      have a4 : wa.cell? ⟨w1.heap.size, 4, none⟩ = some (.pointer (some (A 4))) := cell_of HAa.out rfl
      have a5 : wa.cell? ⟨w1.heap.size, 5, none⟩ = some (.pointer (some (A 5))) := cell_of HAa.out rfl
      have a6 : wa.cell? ⟨w1.heap.size, 6, none⟩ = some (.pointer (some (A 6))) := cell_of HAa.out rfl
      have a7 : wa.cell? ⟨w1.heap.size, 7, none⟩ = some (.pointer (some (A 7))) := cell_of HAa.out rfl
      have a8 : wa.cell? ⟨w1.heap.size, 8, none⟩ = some (.pointer (some (A 8))) := cell_of HAa.out rfl
      have a9 : wa.cell? ⟨w1.heap.size, 9, none⟩ = some (.pointer (some (A 9))) := cell_of HAa.out rfl
      have a10 : wa.cell? ⟨w1.heap.size, 10, none⟩ = some (.pointer (some (A 10))) := cell_of HAa.out rfl
      have a11 : wa.cell? ⟨w1.heap.size, 11, none⟩ = some (.pointer (some (A 11))) := cell_of HAa.out rfl
      have HIns := Lib.hid (sk_insert wa S mb T sz dv hv hh ns bk HSa.out x HFx.out HOx.out HFd.out n HN.out HL.out)
      rw [HP.out, HA.out] at HIns
      unfold verV at HIns
      have HWas : Hid (wasE T x = noE) := Lib.hid (by unfold wasE; rw [HFd.out]; rfl)
      go_wp2_with fail
      refine HIns.out.mono ?_
      rintro r we ⟨rfl, ⟨hv2, bk2, nd2, hs2, hn2, hb2⟩, hf2⟩
      have hsz := HBwa.out.size
      have hRe := hf2.keep HR.out (fun hk => by have := HSl.out _ hk; omega)
      have r0 := cell_of (i := 0) hRe rfl
      have r1 := cell_of (i := 1) hRe rfl
      have r2 := cell_of (i := 2) hRe rfl
      have r3 := cell_of (i := 3) hRe rfl
      have z0 := frozen_of (i := 0) hRe
      have z1 := frozen_of (i := 1) hRe
      have z2 := frozen_of (i := 2) hRe
      have z3 := frozen_of (i := 3) hRe
      obtain ⟨V, hV⟩ : ∃ V, we.alloc (.cells #[.string ⟨#[]⟩, .int .u64 0, .bool false, .string ⟨#[]⟩] 59) = V := ⟨_, rfl⟩
      have hbV : Below we.heap.size we V := by rw [← hV]; exact (Below.refl _ _).alloc (Nat.le_refl _) _
      have hRV := (hbV.block _ (block_lt hRe)).trans hRe
      have hNV : V.heap[we.heap.size]? = some (.cells #[.string ⟨#[]⟩, .int .u64 0, .bool false, .string ⟨#[]⟩] 59 (0, 0)) := by rw [← hV]; exact heap_alloc_new we _
      have n0 := cell_of (i := 0) hNV rfl
      have n1 := cell_of (i := 1) hNV rfl
      have n2 := cell_of (i := 2) hNV rfl
      have n3 := cell_of (i := 3) hNV rfl
      have v0 := cell_of (i := 0) hRV rfl
      have v1 := cell_of (i := 1) hRV rfl
      have v2 := cell_of (i := 2) hRV rfl
      have v3 := cell_of (i := 3) hRV rfl
      have x0 := frozen_of (i := 0) hRV
      have x1 := frozen_of (i := 1) hRV
      have x2 := frozen_of (i := 2) hRV
      have x3 := frozen_of (i := 3) hRV
      have hsz2 := hf2.size
      have hsz3 := (block_lt HR.out : w.heap.size + 1 < wa.heap.size)
      have hfr := set4_fr V (w.heap.size + 1) (.string ⟨#[]⟩) (.int .u64 0) (.bool false) (.string ⟨#[]⟩) (fun k => k = w.heap.size + 1) rfl
      have hfz := set4_heap hRV (.string ⟨#[]⟩) (.int .u64 0) (.bool false) (.string ⟨#[]⟩)
      have hwe : Fr (fun k => S k) w we := (Fr.of_new HBwa.out _).then hf2
      have hweZ : Fr (fun k => w.heap.size ≤ k) we (set4 V (w.heap.size + 1) (.string ⟨#[]⟩) (.int .u64 0) (.bool false) (.string ⟨#[]⟩)) := (Fr.of_new hbV _).then (hfr.mono fun k _ e => by omega)
      unfold set4 at hfz hweZ
      have HFz := Lib.hid hfz
      have hZ4 : Fr (fun k => k = w.heap.size + 1) V (set4 V (w.heap.size + 1) (.string ⟨#[]⟩) (.int .u64 0) (.bool false) (.string ⟨#[]⟩)) := hfr
      have hSk := (hs2.after hbV).step (S' := More S w.heap.size) hZ4 (fun k _ hk e => by
        rcases hk with hk | hk
        · have := HSl.out k hk; omega
        · omega) (fun k _ hk => hk.elim (fun h => .inl h) (fun h => .inr (by omega)))
      have hFin := hwe.trans (hweZ.mono fun k _ hk => .inr hk)
      unfold set4 at hSk
      have HRes := Lib.hid (And.intro hSk hFin)
      clear hRe hbV hRV hNV hfr hwe hweZ hs2 hf2 hZ4 hSk hFin hfz
      go_wp2_with fail
      refine bodyPost_ret (v := .tuple #[.agg #[.string ⟨#[]⟩, .int .u64 0, .bool false, .string ⟨#[]⟩], .bool false]) (results_verB rfl _ _ (w.heap.size + 1) _ _ rfl rfl HFz.out rfl) rfl ⟨?_, ⟨hv2, insN ns P nd2, bk2, ?_, nd2, rfl, hn2, hb2⟩, HRes.out.2⟩
      · rw [HWas.out]
        rfl
      · exact HRes.out.1
    · skip
      have hys := block_lt HYa.out
      have hws := HWs.out
      have HAa := Lib.hid ((HBc.out.block w1.heap.size hys).trans HYa.out)
      have HKw := Lib.hid ((HBc.out.block w.heap.size (by omega)).trans HY0.out)
      have HR := Lib.hid ((HBc.out.block (w.heap.size + 1) (by omega)).trans HY1.out)
      have hbwa : Below w.heap.size w wa := HBY.out.trans (HBc.out.mono HBY.out.size)
      have HSa := Lib.hid (HS.out.after hbwa)
      have HBwa := Lib.hid hbwa
      have k0 := cell_of (i := 0) HKw.out rfl
      have k1 := cell_of (i := 1) HKw.out rfl
      have k2 := cell_of (i := 2) HKw.out rfl
      have k3 := cell_of (i := 3) HKw.out rfl
      clear hbwa hys hws
      have hnB := (HSa.out.lk.nb P nd HNd.out).2
      have d0 : wa.cell? ⟨nd.blk, 0, none⟩ = some (.string ⟨nd.ent.key.toArray⟩) := cell_of hnB rfl
      have d1 : wa.cell? ⟨nd.blk, 1, none⟩ = some (.int .u64 (nd.ent.seq : Int)) := cell_of hnB rfl
      have d2 : wa.cell? ⟨nd.blk, 2, none⟩ = some (.bool nd.ent.gone) := cell_of hnB rfl
      have d3 : wa.cell? ⟨nd.blk, 3, none⟩ = some (.string ⟨nd.ent.val.toArray⟩) := cell_of hnB rfl
      obtain ⟨b, rfl⟩ : ∃ b, bk = some b := by
        cases hbk : bk with
        | none =>
          have h1 := HSa.out.bnil hbk
          have h2 := HNd.out
          rw [h1] at h2
          cases h2
        | some b => exact ⟨b, rfl⟩
      obtain ⟨V, hV⟩ : ∃ V, wa.alloc (.cells #[.string ⟨nd.ent.key.toArray⟩, .int .u64 (nd.ent.seq : Int), .bool nd.ent.gone, .string ⟨nd.ent.val.toArray⟩] 59) = V := ⟨_, rfl⟩
      have hbV : Below wa.heap.size wa V := by rw [← hV]; exact (Below.refl _ _).alloc (Nat.le_refl _) _
      have hSV := HSa.out.after hbV
      have hKV := (hbV.block _ (block_lt HKw.out)).trans HKw.out
      have hRV := (hbV.block _ (block_lt HR.out)).trans HR.out
      have hNV : V.heap[wa.heap.size]? = some (.cells #[.string ⟨nd.ent.key.toArray⟩, .int .u64 (nd.ent.seq : Int), .bool nd.ent.gone, .string ⟨nd.ent.val.toArray⟩] 59 (0, 0)) := by rw [← hV]; exact heap_alloc_new wa _
      have HRp := Lib.hid (sk_replace V S mb T sz dv hv hh ns b P nd hSV x HFx.out HOx.out HP.out HFd.out HNd.out)
      unfold verV at HRp
      have m0 := cell_of (i := 0) hKV rfl
      have m1 := cell_of (i := 1) hKV rfl
      have m2 := cell_of (i := 2) hKV rfl
      have m3 := cell_of (i := 3) hKV rfl
      have HWas : Hid (wasE T x = nd.ent) := Lib.hid (by
        unfold wasE
        rw [HFd.out, if_pos rfl, HP.out]
        have : T.L[P]? = some nd.ent := by rw [← HSa.out.ents, List.getElem?_map, HNd.out]; rfl
        simp [this])
      have HRV := Lib.hid hRV
      have HNV := Lib.hid hNV
      have HbV := Lib.hid hbV
      clear hnB hbV hSV hKV hRV hNV
      go_wp2_with fail
      refine HRp.out.mono ?_
      rintro r we ⟨rfl, hs2, hc2, hf2⟩
      have hsz2 := hf2.size
      have hszV := HbV.out.size
      have hsz3 := (block_lt HR.out : w.heap.size + 1 < wa.heap.size)
      have hRe := hf2.keep HRV.out (fun hk => by have := HSl.out _ hk; omega)
      have hNe := hf2.keep HNV.out (fun hk => by have := HSl.out _ hk; omega)
      have r0 := cell_of (i := 0) hRe rfl
      have r1 := cell_of (i := 1) hRe rfl
      have r2 := cell_of (i := 2) hRe rfl
      have r3 := cell_of (i := 3) hRe rfl
      have z0 := frozen_of (i := 0) hRe
      have z1 := frozen_of (i := 1) hRe
      have z2 := frozen_of (i := 2) hRe
      have z3 := frozen_of (i := 3) hRe
      have n0 : we.cell? ⟨wa.heap.size, 0, none⟩ = some (.string ⟨nd.ent.key.toArray⟩) := cell_of hNe rfl
      have n1 : we.cell? ⟨wa.heap.size, 1, none⟩ = some (.int .u64 (nd.ent.seq : Int)) := cell_of hNe rfl
      have n2 : we.cell? ⟨wa.heap.size, 2, none⟩ = some (.bool nd.ent.gone) := cell_of hNe rfl
      have n3 : we.cell? ⟨wa.heap.size, 3, none⟩ = some (.string ⟨nd.ent.val.toArray⟩) := cell_of hNe rfl
      have hfr := set4_fr we (w.heap.size + 1) (.string ⟨nd.ent.key.toArray⟩) (.int .u64 (nd.ent.seq : Int)) (.bool nd.ent.gone) (.string ⟨nd.ent.val.toArray⟩) (fun k => k = w.heap.size + 1) rfl
      have hfz := set4_heap hRe (.string ⟨nd.ent.key.toArray⟩) (.int .u64 (nd.ent.seq : Int)) (.bool nd.ent.gone) (.string ⟨nd.ent.val.toArray⟩)
      have hbw : b < w.heap.size := HSl.out b (HSa.out.blank b rfl).1
      have hSk := hs2.step (S' := More S w.heap.size) hfr (fun k _ hk e => by
        rcases hk with hk | hk
        · have := HSl.out k hk; omega
        · omega) (fun k _ hk => hk.elim (fun h => .inl h) (fun h => .inr (by omega)))
      have hch := hfr.keep hc2 (fun e => by omega)
      have hFin : Fr S w _ := (((Fr.of_new HBwa.out S).then (Fr.of_new HbV.out S)).then hf2).trans (hfr.mono fun k _ e => .inr (by omega))
      unfold set4 at hSk hch hFin hfz
      have HFz := Lib.hid hfz
      have HRes := Lib.hid (And.intro hSk (And.intro hch hFin))
      clear hRe hNe hfr hs2 hf2 hc2 hSk hch hFin hfz
      go_wp2_with fail
      refine bodyPost_ret (v := .tuple #[.agg #[.string ⟨nd.ent.key.toArray⟩, .int .u64 (nd.ent.seq : Int), .bool nd.ent.gone, .string ⟨nd.ent.val.toArray⟩], .bool true]) (results_verB rfl _ _ (w.heap.size + 1) _ _ rfl rfl HFz.out rfl) rfl ⟨?_, ⟨hv, ns.set P (setE nd x), some (V.heap.size + 1), ?_, nd, b, V.heap.size + 1, HNd.out, rfl, rfl, rfl, HRes.out.2.1⟩, HRes.out.2.2⟩
      · rw [HWas.out]
      · exact HRes.out.1

theorem sk_put (w : World) (S : Nat → Prop) (mb : Nat) (T : PTb) (sz : Nat) (dv hv : Value) (hh : Nat) (ns : List Nd) (bk : Option Nat) (h : SkAt w S mb T sz dv hv hh ns bk) (x : Ent) (hx : FitE x) (ho : oneE x = true) (n : Nat) (hn : (n : Int) = tow T) (hl : ns.length ≤ 1048576) :
    Calls Try.prog 26 #[.pointer (some ⟨mb, 2, none⟩), verV x, .int .i64 (n : Int)] w fun r w' => r = .returned (.tuple #[verV (wasE T x), .bool (foundE x T.L)]) ∧
      (∃ hv' ns' bk', SkAt w' (More S w.heap.size) mb (putT T x) sz dv hv' (if foundE x T.L = true then hh else max hh n) ns' bk' ∧ PutTo w' ns ns' bk bk' (plcE x T.L) x (foundE x T.L)) ∧ Fr S w w' := by
  refine (sk_put_ w (fun k => S k ∧ k < w.heap.size) mb T sz dv hv hh ns bk (h.mono fun k hk hs => ⟨hs, hk⟩) x hx ho n hn hl (fun k hk => hk.2)).mono ?_
  rintro r w' ⟨h1, ⟨hv', ns', bk', h2, h3⟩, h4⟩
  exact ⟨h1, ⟨hv', ns', bk', h2.mono fun k _ hk => hk.elim (fun h => .inl h.1) (fun h => .inr h), h3⟩, h4.mono fun k _ hk => hk.1⟩
end Go.Proofs.Ytaomneenflkpeaa
