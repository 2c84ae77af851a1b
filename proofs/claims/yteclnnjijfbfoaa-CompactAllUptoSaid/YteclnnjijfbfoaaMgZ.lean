/-
  The walk over merge.Merge.
-/
import Derived.Test.YteclnnjijfbfoaaMgY
namespace Go.Proofs.Yteclnnjijfbfoaa
open Go.RowKit

/-- A slice of slices of versions. -/
def Els (w : World) (F : Nat → Prop) (v : Value) (ls : List (List Ent)) : Prop := ∃ us : List Value, us.length = ls.length ∧ Cl w F v ls.length us ∧ ∀ (k : Nat) (l : List Ent) (u : Value), ls[k]? = some l → us[k]? = some u → En w F u l
theorem Els.below {w w' : World} {F : Nat → Prop} {v : Value} {ls : List (List Ent)} (h : Els w F v ls) (hb : Below w.heap.size w w') : Els w' F v ls := by
  obtain ⟨us, h1, h2, h3⟩ := h
  exact ⟨us, h1, h2.below hb, fun k l u h4 h5 => (h3 k l u h4 h5).below hb⟩
theorem Els.form {w : World} {F : Nat → Prop} {v : Value} {ls : List (List Ent)} (h : Els w F v ls) : ∃ p cap, v = .slice p ls.length cap ∧ ls.length ≤ cap ∧ ls.length ≤ 140737488355328 ∧ cap ≤ 9223372036854775807 ∧ (p = none → cap = 0) := by
  obtain ⟨us, _, h2, _⟩ := h
  exact h2.form
theorem Els.at_ {w : World} {F : Nat → Prop} {p : Option Addr} {m cap : Nat} {ls : List (List Ent)} (h : Els w F (.slice p m cap) ls) {k : Nat} {l : List Ent} (hk : ls[k]? = some l) :
    ∃ b off q c, p = some ⟨b, off, none⟩ ∧ b < w.heap.size ∧ w.cell? ⟨b, off + k, none⟩ = some (.slice q l.length c) ∧ En w F (.slice q l.length c) l := by
  obtain ⟨us, h1, h2, h3⟩ := h
  obtain ⟨u, hu⟩ : ∃ u, us[k]? = some u := ⟨_, List.getElem?_eq_getElem (by rw [h1]; exact (List.getElem?_eq_some_iff.1 hk).1)⟩
  obtain ⟨b, off, e, hb, _, hc⟩ := h2.at_ hu
  have hE := h3 k l u hk hu
  obtain ⟨q, c, rfl, _⟩ := hE.form
  exact ⟨b, off, q, c, e, hb, hc, hE⟩
theorem OutM.en {b0 B : Nat} {ts : List TEnt} {w : World} (h : OutM b0 B ts w) (hf : ∀ x ∈ ts, FitE x.1) (hn : ts.length ≤ 1048576) : ∃ p c, w.heap[b0]? = some (.cells #[.slice p ts.length c] 26 (0, 0)) ∧ En w (fun k => B ≤ k) (.slice p ts.length c) (ts.map Prod.fst) := by
  obtain ⟨v, h1, h2, h3, _, _⟩ := h
  obtain ⟨p, c, rfl, _, _⟩ := row_shape h2
  refine ⟨p, c, h1, ts.map TEnt.u, by simp, ?_, fun k e u h4 h5 => ?_⟩
  · rw [List.length_map]
    exact Cl.of_own h2 (by omega) (fun k hk => row_low h2 k hk) (by rw [cellsE_length _ _ (by simp), List.length_map])
  · have hkl : k < ts.length := by
      have := (List.getElem?_eq_some_iff.1 h4).1
      rwa [List.length_map] at this
    have e1 : ts[k].1 = e := by simpa [hkl] using h4
    have e2 : ts[k].u = u := by simpa [hkl] using h5
    subst e1 e2
    have := (hf ts[k] (List.getElem_mem hkl)).val
    exact (h3 ts[k] (List.getElem_mem hkl)).by_ (by omega)
theorem slSrc : SlT 75 77 1 8 :=
  ⟨Try.underlying75, by simp [Program.elem, Try.underlying75], fun _ => by kernel_rfl, ⟨.nilFunc, by kernel_rfl, rfl⟩, by omega, by omega⟩
/-- One source more. -/
theorem SrcM.push {wr W w3 : World} {A : Nat} {sp p9 : Option Addr} {sc c9 : Nat} {bls : List Nat} {ls : List (List Ent)} (h : SrcM wr A sp sc bls ls 0) (hA : A ≤ wr.heap.size) {p : Option Addr} {c : Nat} {l : List Ent} (hE : En wr (fun k => k < A) (.slice p l.length c) l) (hb : Below wr.heap.size wr W)
    (hbx : W.heap[wr.heap.size]? = some (.cells #[.slice p l.length c] 26 (0, 0))) (ho : w3.ownsRow A 77 1 (.slice p9 (ls.length + 1) c9) (ls.length + 1) (bls.map srcV ++ [srcV wr.heap.size])) (hg : W.grownBy w3 (Value.slice sp ls.length sc).ownBlock) :
    SrcM w3 A p9 c9 (bls ++ [wr.heap.size]) (ls ++ [l]) 0 ∧ Below A W w3 := by
  have h1 := h.below (Nat.le_refl _) hb
  have hbA : Below A W w3 := (Below.refl A W).grown hg (Nat.le_trans hA hb.size) (fun k hk => (World.ownsRow.lt h1.row k hk).1)
  have hbl : ∀ (bl : Nat) (cs : Array Value), W.heap[bl]? = some (.cells cs 26 (0, 0)) → w3.heap[bl]? = some (.cells cs 26 (0, 0)) := fun bl cs hb => (hg.block _ (block_lt hb) (fun e => by
    obtain ⟨cur, hc⟩ := row_heap h1.row e.symm
    exact kind_ne hb hc (by decide) rfl)).trans hb
  have hEn : ∀ v es, En W (fun k => k < A) v es → En w3 (fun k => k < A) v es := fun v es he => he.step (Fr.of_below hbA) fun k _ hk hle => by omega
  have hlt : ∀ x ∈ bls, x < wr.heap.size := fun x hx => by
    obtain ⟨j, hj⟩ := List.getElem?_of_mem hx
    obtain ⟨l', hl'⟩ : ∃ l', ls[j]? = some l' := ⟨_, List.getElem?_eq_getElem (by rw [← h.len]; exact (List.getElem?_eq_some_iff.1 hj).1)⟩
    obtain ⟨_, _, _, h9, _⟩ := h.box j x l' (Nat.zero_le _) hj hl'
    exact block_lt h9
  refine ⟨⟨by simp [h.len], by simpa using ho, fun j bl l' _ h2 h3 => ?_, ?_⟩, hbA⟩
  · by_cases hj : j < ls.length
    · rw [List.getElem?_append_left (by rw [h.len]; exact hj)] at h2
      rw [List.getElem?_append_left hj] at h3
      obtain ⟨x1, p', c', x2, x3⟩ := h1.box j bl l' (Nat.zero_le _) h2 h3
      exact ⟨x1, p', c', hbl _ _ x2, hEn _ _ x3⟩
    · have hj2 := (List.getElem?_eq_some_iff.1 h3).1
      have hj3 : j = ls.length := by simp at hj2; omega
      subst hj3
      rw [← h.len, List.getElem?_append_right (Nat.le_refl _)] at h2
      rw [List.getElem?_append_right (Nat.le_refl _)] at h3
      simp only [Nat.sub_self, List.getElem?_cons_zero] at h2 h3
      obtain rfl := Option.some.inj h2
      obtain rfl := Option.some.inj h3
      exact ⟨hA, p, c, hbl _ _ hbx, hEn _ _ (hE.below hb)⟩
  · rw [List.pairwise_append]
    exact ⟨h.ne, by simp, fun x hx y hy e => by rw [List.mem_singleton.1 hy] at e; have := hlt x hx; omega⟩

set_option maxRecDepth 100000 in
set_option maxHeartbeats 8000000 in
theorem mg_merge (w : World) (F : Nat → Prop) (v : Value) (ls : List (List Ent)) (h : Els w F v ls) (hfit : ∀ l ∈ ls, ∀ x ∈ l, FitE x) (hfew : ls.length ≤ 1024) (M : Nat) (hM : ∀ l ∈ ls, l.length ≤ M) (hMM : ls.length * M ≤ 1048576) :
    Calls Try.prog 18 #[v] w fun r w' => Below w.heap.size w w' ∧ (((∀ l ∈ ls, rightE l = true) ∧ ∃ u, r = .returned (.tuple #[u, .int .i64 0]) ∧ En w' (fun k => w.heap.size ≤ k) u (mrgL ls)) ∨ ((∃ l ∈ ls, rightE l = false) ∧ r = .returned (.tuple #[.slice none 0 0, .int .i64 15]))) := by
  obtain ⟨p, cap, rfl, hlc, hl47, hcm, _⟩ := h.form
  have HL := Lib.hid h
  have HF := Lib.hid (And.intro hfit (And.intro hM hMM))
  clear h hfit hM hMM
  go_enter Try.func18, Try.ntmps18
  go_wp2_with fail
  go_loopg [4, 10] ls.length (fun gg sv iv wr => ∃ (pre rest : List (List Ent)) (sp : Option Addr) (sc : Nat) (bls : List Nat), ls = pre ++ rest ∧ gg = rest.length ∧ sv = .slice sp pre.length sc ∧ iv = .int .i64 (pre.length : Int) ∧ SrcM wr w.heap.size sp sc bls pre 0 ∧ (∀ l ∈ pre, rightE l = true) ∧ Below w.heap.size w wr)
  case atStart => exact ⟨[], ls, none, 0, [], rfl, rfl, rfl, rfl, ⟨rfl, World.ownsRow_nil _ _ _ _, (fun j bl l _ h => by simp at h), by simp⟩, (fun l hl => by cases hl), Below.refl _ _⟩
  case round =>
    obtain ⟨pre, rest, sp, sc, bls, hls, rfl, rfl, rfl, hsrc, hright, hbr⟩ := hrel
    have HR := Lib.hid (And.intro hsrc (And.intro hright hbr))
    have hlen := congrArg List.length hls
    rw [List.length_append] at hlen
    rcases rest with _ | ⟨l, rest⟩
    · rw [List.append_nil] at hls
      subst hls
      clear hsrc hright hbr hlen
      obtain ⟨V, hV⟩ : ∃ V, wr.alloc (.cells #[.slice none 0 0] 26) = V := ⟨_, rfl⟩
      have hbV : Below wr.heap.size wr V := by rw [← hV]; exact (Below.refl _ _).alloc (Nat.le_refl _) _
      have hb0 : V.heap[wr.heap.size]? = some (.cells #[.slice none 0 0] 26 (0, 0)) := by rw [← hV]; exact heap_alloc_new wr _
      have hbn : wr.heap.size ∉ bls := fun hx => by
        obtain ⟨j, hj⟩ := List.getElem?_of_mem hx
        obtain ⟨l', hl'⟩ : ∃ l', ls[j]? = some l' := ⟨_, List.getElem?_eq_getElem (by rw [← HR.out.1.len]; exact (List.getElem?_eq_some_iff.1 hj).1)⟩
        obtain ⟨_, _, _, h9, _⟩ := HR.out.1.box j _ l' (Nat.zero_le _) hj hl'
        exact Nat.lt_irrefl _ (block_lt h9)
      have HMg := Lib.hid (q_merged V w.heap.size sp sc bls ls M wr.heap.size (HR.out.1.below (Nat.le_refl _) hbV) (Nat.le_trans HR.out.2.2.size hbV.size) hfew (fun l hl => (rightE_iff.1 (HR.out.2.1 l hl)).2) HF.out.1 HF.out.2.1 HF.out.2.2 hb0 HR.out.2.2.size hbn)
      have HBV := Lib.hid (HR.out.2.2.trans (hbV.mono HR.out.2.2.size))
      have HVs : Hid (w.heap.size ≤ V.heap.size) := Lib.hid HBV.out.size
      clear hbV hb0 hbn
      unfold cmpV at HMg
      go_wp2_with fail
      refine HMg.out.mono ?_
      rintro r w5 ⟨rfl, ts, hmge, hout, hb5, hn5⟩
      have hts : ts.map Prod.fst = mrgL ls := hmge.uniq (mrgL_is fun l hl => (rightE_iff.1 (HR.out.2.1 l hl)).2)
      have hfts : ∀ x ∈ ts, FitE x.1 := fun x hx => by
        obtain ⟨l, hl, hxl⟩ := inM_mem ((hmge.mem x.1).1 (List.mem_map_of_mem hx))
        exact HF.out.1 l hl _ hxl
      obtain ⟨p5, c5, hbx5, hE5⟩ := hout.en hfts hn5
      have k5 := cell_of (i := 0) hbx5 rfl
      rw [hts] at hE5
      have HFin := Lib.hid (And.intro (hE5.mono (G := fun k => w.heap.size ≤ k) fun k _ hk => Nat.le_trans HVs.out hk) (HBV.out.trans hb5))
      clear hmge hout hb5 hfts hbx5 hE5 hts
      go_wp2_with fail
      refine Go.bodyPost_ret (Go.results_tmp2 rfl _ _ _) rfl ?_
      exact ⟨HFin.out.2, .inl ⟨HR.out.2.1, _, rfl, HFin.out.1⟩⟩
    · have hk : ls[pre.length]? = some l := by rw [hls]; simp
      obtain ⟨b, off, q, c, rfl, hb, hc, hE⟩ := HL.out.at_ hk
      have c0 := (below_cells hbr b _ hb).trans hc
      have HRt := Lib.hid (mg_right wr F _ l (hE.below hbr))
      have HEl := Lib.hid hE
      have hmem : l ∈ ls := List.mem_of_getElem? hk
      have HLs := Lib.hid hls
      clear hls
      have hlt : pre.length < ls.length := by simp only [List.length_cons] at hlen; omega
      clear hlen
      clear hsrc hright hbr hc hE hk hb
      rcases hrt : rightE l with _ | _
      · rw [hrt] at HRt
        have HNo := Lib.hid (And.intro hmem hrt)
        clear hrt hmem
        go_wp2_with fail
        refine HRt.out.mono ?_
        rintro r w2 ⟨rfl, hb2⟩
        have HB2 := Lib.hid (HR.out.2.2.trans (hb2.mono HR.out.2.2.size))
        clear hb2
        go_wp2_with fail
        refine Go.bodyPost_ret (Go.results_tmp2 rfl _ _ _) rfl ?_
        exact ⟨HB2.out, .inr ⟨⟨l, HNo.out.1, HNo.out.2⟩, rfl⟩⟩
      · rw [hrt] at HRt
        have HYes := Lib.hid hrt
        clear hrt hmem
        go_wp2_with fail
        refine HRt.out.mono ?_
        rintro r w2 ⟨rfl, hb2⟩
        have HS2 := Lib.hid (HR.out.1.below (Nat.le_refl _) hb2)
        have HB2 := Lib.hid (HR.out.2.2.trans (hb2.mono HR.out.2.2.size))
        clear hb2
        obtain ⟨W, hW⟩ : ∃ W, (w2.alloc (.cells #[.slice q l.length c] 26)).alloc (.cells #[.func (.func 47) #[] #[.pointer (some ⟨w2.heap.size, 0, none⟩)]] 77) = W := ⟨_, rfl⟩
        have hbW : Below w2.heap.size w2 W := by rw [← hW]; exact ((Below.refl _ _).alloc (Nat.le_refl _) _).alloc (by simp) _
        have hbx : W.heap[w2.heap.size]? = some (.cells #[.slice q l.length c] 26 (0, 0)) := by rw [← hW]; exact two_on w2 _ _
        have HRow : Hid (W.ownsRow w.heap.size 77 1 (.slice sp pre.length sc) pre.length (bls.map srcV)) := Lib.hid (HS2.out.below (Nat.le_refl _) hbW).row
        have HCl : Hid (Cl W (fun j => j = w2.heap.size + 1) (.slice (some ⟨w2.heap.size + 1, 0, none⟩) 1 1) 1 [srcV w2.heap.size]) := Lib.hid (by
          have h9 := Cl.new (w2.alloc (.cells #[.slice q l.length c] 26)) (fun j => j = w2.heap.size + 1) 1 [srcV w2.heap.size] _ 77 rfl (by omega) (by simp)
          rw [World.size_alloc] at h9
          rw [← hW]
          exact h9)
        have HPut : Hid (∀ (w3 : World) (p9 : Option Addr) (c9 : Nat), w3.ownsRow w.heap.size 77 1 (.slice p9 (pre.length + 1) c9) (pre.length + 1) (bls.map srcV ++ [srcV w2.heap.size]) → W.grownBy w3 (Value.slice sp pre.length sc).ownBlock →
            SrcM w3 w.heap.size p9 c9 (bls ++ [w2.heap.size]) (pre ++ [l]) 0 ∧ Below w.heap.size w w3) := Lib.hid (fun w3 p9 c9 ho hg => by
          have hE2 : En w2 (fun k => k < w.heap.size) (.slice q l.length c) l := (HEl.out.mono (G := fun k => k < w.heap.size) fun k hk _ => hk).below HB2.out
          obtain ⟨k1, k2⟩ := HS2.out.push HB2.out.size hE2 hbW hbx ho hg
          exact ⟨k1, HB2.out.trans ((hbW.mono HB2.out.size).trans k2)⟩)
        have HSz : Hid (w.heap.size ≤ W.heap.size) := Lib.hid (Nat.le_trans HB2.out.size hbW.size)
        clear hbW hbx
        go_wp2_with (first
          | (go_at_call 30
             refine (q_each _ _ _ _).mono ?_
             rintro r w3 ⟨rfl, rfl⟩
             unfold srcV)
          | (at_builtin
             refine slSrc.wpList_append rfl (.tmp 17) (.tmp 20) rfl w.heap.size (v := .slice sp pre.length sc) (u := .slice (some ⟨w2.heap.size + 1, 0, none⟩) 1 1) rfl rfl HRow.out HCl.out rfl (fun x hx => by rw [List.mem_singleton.1 hx]; rfl) (by omega) HSz.out ?_
             intro v' w3 ho3 hg3 ha3
             obtain ⟨p9, c9, rfl, _, _⟩ := row_shape ho3
             have HNx := Lib.hid (HPut.out w3 p9 c9 ho3 hg3)
             clear ho3 hg3 ha3))
        go_roundg rest.length
        case measure => simp
        case rel => exact ⟨pre ++ [l], rest, p9, c9, _, HLs.out.trans (by simp), rfl, by simp, by simp, HNx.out.1, fun x hx => (List.mem_append.1 hx).elim (HR.out.2.1 x) (fun e => by rw [List.mem_singleton.1 e]; exact HYes.out), HNx.out.2⟩
end Go.Proofs.Yteclnnjijfbfoaa
