/-
  The walk over take: one message out of a bag.
-/
import Derived.Test.YtiffoafjgcjgoaaNtC
namespace Go.Proofs.Ytiffoafjgcjgoaa
open Go.RowKit

/-- copy of as many cells, one step of a region that draws. -/
theorem step_copy_cells {P : Program} {ops : Array Oper} {o : Oper} {a : Act} {w : World} {K : Act → World → Prop} {Q : Exit → Act → World → Prop} {E : Prop}
    (hg : o.guard = none) (d s : Operand) (t : TypeId) (hop : o.op = Op.call { callee := Callee.builtin Builtin.copy, args := #[d, s], argTypes := #[t, t] })
    (e : TypeId) (ht : P.underlying t = some (.slice e)) (hs : (P.info? e).map (·.size) = some 1) (b o1 n c1 : Nat) (hd : a.eval d = .slice (some ⟨b, o1, none⟩) n c1)
    (ad : Addr) (c2 : Nat) (hsr : a.eval s = .slice (some ad) n c2) (cs : List Value) (hn : cs.length = n) (hsrc : ∀ j v, cs[j]? = some v → w.cell? (ad.add j) = some v)
    (hc : ∀ j, j < cs.length → (w.cell? ⟨b, o1 + j, none⟩).isSome = true ∧ w.frozen? ⟨b, o1 + j, none⟩ = false) (h1 : ∀ v ∈ cs, v.oneCell' = true)
    (hK : K (a.put o.dst (goInt n)) (w.setCells b o1 cs)) :
    if Region.wanted o (yielded ops a.tmps) = true then Oper.wp P o a w K Q else E := by
  have hw : Region.wanted o (yielded ops a.tmps) = true := by simp [Region.wanted, hg]
  rw [if_pos hw]
  subst hn
  have hrun := run_copy_cells (P := P) w t t o.type e b o1 cs.length c1 ad cs.length c2 cs ht hs (by simp) hsrc (fun j hj => (hc j hj).1) (fun j hj => (hc j hj).2) h1
  unfold Oper.wp
  simp [execOp, hop, resolve, invoke, builtin, hd, hsr, hrun, Result.andThen]
  exact hK

section
variable {w w' : World} {S : Nat → Prop} {nb : Nat} {N : PNet} {gb : Nat} {ro : Nat → Nat} {bv : Nat → Nat → Value}
theorem rem_wf (h : Wf N) {f t k : Nat} (hk : k < cnt N.L f t) : Wf { N with L := rem f t k N.L } := by
  refine ⟨h.n1, h.n2, h.b1, h.b2, fun m hm => h.inn m (rem_mem hm), fun m hm => h.txt m (rem_mem hm), fun f' t' => ?_⟩
  show (bag (rem f t k N.L) f' t').length ≤ N.bound
  rw [rem_bag _ _ _ _ _ _ hk]
  split
  · have h1 := h.cnt f t
    have h2 := hk
    unfold cnt at h1 h2
    rw [List.length_eraseIdx_of_lt h2]
    omega
  · exact h.cnt f' t'
/-- A message is taken out of one bag. -/
theorem NtAt.takeBag (h : NtAt w S nb N gb ro bv) {f t k : Nat} (hf : f < N.nodes) (ht : t < N.nodes) (hk : k < cnt N.L f t) {v' : Value} {w2 : World}
    (hfr : Fr (fun k => (bv f t).ownBlock = some k) w w2) (hnew : BagAt w2 S v' ((bag N.L f t).eraseIdx k)) (hv : ∀ k, v'.ownBlock = some k → (bv f t).ownBlock = some k) :
    (∃ bv', NtAt (w2.setCell ⟨ro f, t, none⟩ v') S nb { N with L := rem f t k N.L } gb ro bv') ∧ Fr S w (w2.setCell ⟨ro f, t, none⟩ v') := by
  obtain ⟨cur0, hc0, _⟩ := h.rows f hf
  have hbag := h.bags f t hf ht
  have hro : w2.heap[ro f]? = w.heap[ro f]? := hfr.block _ (block_lt hc0) (fun e => by
    obtain ⟨c2, hc2, _⟩ := hbag.heap e
    exact kind_ne hc2 hc0 (by decide) rfl)
  have hfr1 : Fr (fun k => k = ro f ∨ (bv f t).ownBlock = some k) w (w2.setCell ⟨ro f, t, none⟩ v') := (hfr.mono fun k _ hk => .inr hk).then (Fr.setCell _ w2 (.inl rfl) _)
  have hrb := rem_bag N.L f t k
  refine ⟨⟨_, h.setBag (T := S) hf ht hfr1 (fun cur hc => setCell_same (hro.trans hc) _) (N' := { N with L := rem f t k N.L }) (v' := v') ?_ ?_ (fun _ _ hs => hs) rfl rfl rfl (rem_wf h.wf hk) ?_⟩, hfr1.mono fun j _ hm => ?_⟩
  · show BagAt _ S v' (bag (rem f t k N.L) f t)
    rw [hrb f t hk, if_pos ⟨rfl, rfl⟩]
    exact hnew.keep (fun j hj => setCell_other (fun e => by
      obtain ⟨c2, hc2, _⟩ := hnew.heap hj
      exact kind_ne hc2 (hro.trans hc0) (by decide) e) _) fun _ _ hs => hs
  · rcases hq : v'.ownBlock with _ | j
    · exact .inr fun k e => by cases e
    · exact .inl (hv j hq).symm
  · intro f' t' hne
    show bag (rem f t k N.L) f' t' = _
    rw [hrb f' t' hk, if_neg hne]
  · rcases hm with e | e
    · rw [e]; exact h.inR f hf
    · obtain ⟨_, _, hs⟩ := hbag.heap e
      exact hs
end

set_option maxRecDepth 100000 in
set_option maxHeartbeats 4000000 in
theorem take_any (w : World) (S : Nat → Prop) (nb : Nat) (N : PNet) (gb : Nat) (ro : Nat → Nat) (bv : Nat → Nat → Value) (h : NtAt w S nb N gb ro bv) (f t : Nat) (hf : f < N.nodes) (ht : t < N.nodes) (k : Nat) (hk : k < cnt N.L f t) (s : List UInt8) (hs : (bag N.L f t)[k]? = some s) :
    Calls Try.prog 31 #[.pointer (some ⟨ro f, t, none⟩), .int .i64 (k : Int)] w fun e w' => e = .returned (.string ⟨s.toArray⟩) ∧ (∃ bv', NtAt w' S nb { N with L := rem f t k N.L } gb ro bv') ∧ Fr S w w' := by
  have hb := h.bags f t hf ht
  have cr := h.rowAt hf ht
  have z := h.rowFz hf t
  have e0 : (bag N.L f t).length = cnt N.L f t := rfl
  have hle := Nat.le_trans (h.wf.cnt f t) h.wf.b2
  have hrl := h.rowLt hf
  have hrows := h.rows f hf
  have HT := Lib.hid (fun (v' : Value) (w2 : World) => h.takeBag (v' := v') (w2 := w2) hf ht hk)
  rcases hb with ⟨_, e⟩ | ⟨g, off, cap, cur, eq, hg, hS, hn, hoc, hm, hat⟩
  · exfalso
    rw [e] at e0
    simp at e0
    omega
  rw [e0] at eq hn
  rw [eq] at cr HT
  have hgr : g ≠ ro f := by
    obtain ⟨c2, hc2, _⟩ := hrows
    exact kind_ne hg hc2 (by decide)
  have hmm : cap ≤ 9223372036854775807 := by unfold maxLen at hm; exact hm
  obtain ⟨n, hnn⟩ : ∃ n, cnt N.L f t = n := ⟨_, rfl⟩
  rw [hnn] at hk e0 hle hn cr HT
  generalize bag N.L f t = ss at *
  have ck : w.cell? ⟨g, off + k, none⟩ = some (.string ⟨s.toArray⟩) := cell_of hg (hat k s hs)
  have HG := Lib.hid hg
  have HAt := Lib.hid hat
  have HE := Lib.hid e0
  have HS := Lib.hid hS
  have HM := Lib.hid hm
  clear h eq hrows hat hs hnn hm hS
  by_cases h1 : n = 1
  · subst h1
    obtain rfl : k = 0 := by omega
    rw [Nat.add_zero] at ck
    go_enter Try.func31, Try.ntmps31
    go_wp2
    go_ret
    obtain ⟨x1, x2⟩ := HT.out (.slice none 0 0) w (Fr.refl _ w) (by
      have h2 := HE.out
      rw [show ss.eraseIdx 0 = [] by
        apply List.eq_nil_of_length_eq_zero
        rw [List.length_eraseIdx_of_lt (by omega)]
        omega]
      exact BagAt.nil _ _) (fun k e => by cases e)
    exact ⟨rfl, x1, x2⟩
  · have hne : ((n : Int) == 1) = false := by simp; omega
    by_cases h2 : k < n / 2
    · have hd2 : (k : Int) < (n : Int) / 2 := by omega
      obtain ⟨cs, hcs⟩ : ∃ cs, cs = (ss.take k).map sv := ⟨_, rfl⟩
      have hcl : cs.length = k := by rw [hcs]; simp; rw [HE.out]; omega
      have hcg : ∀ j u, cs[j]? = some u → cur[off + j]? = some u := by
        intro j u hu
        have hjk : j < k := by
          have := (List.getElem?_eq_some_iff.1 hu).1
          omega
        rw [hcs, List.getElem?_map, List.getElem?_take, if_pos hjk] at hu
        obtain ⟨s', hs', rfl⟩ := Option.map_eq_some_iff.1 hu
        exact HAt.out _ _ hs'
      have hgd : w.drew.heap[g]? = some (.cells cur 9 (0, 0)) := HG.out
      have s1 : Hid (∀ j v, cs[j]? = some v → w.drew.cell? ((⟨g, off, none⟩ : Addr).add j) = some v) := Lib.hid (fun j v hv => by
        rw [Addr.add_lit]
        exact cell_of hgd (hcg j v hv))
      have s2 : Hid (∀ j, j < cs.length → (w.drew.cell? ⟨g, off + 1 + j, none⟩).isSome = true ∧ w.drew.frozen? ⟨g, off + 1 + j, none⟩ = false) := Lib.hid (fun j hj => by
        have hb : off + 1 + j < cur.size := by omega
        refine ⟨?_, frozen_of hgd⟩
        rw [cell_of hgd (Array.getElem?_eq_getElem hb)]
        rfl)
      have s3 : Hid (∀ v ∈ cs, v.oneCell' = true) := Lib.hid (by
        intro u hu
        rw [hcs] at hu
        obtain ⟨x, _, rfl⟩ := List.mem_map.1 hu
        rfl)
      have s4 : Hid ((Try.prog.info? 9).map (·.size) = some 1) := Lib.hid (by kernel_rfl)
      obtain ⟨W1, hW1⟩ : ∃ W1, W1 = w.drew.setCells g (off + 1) cs := ⟨_, rfl⟩
      have hB1 : W1.heap[g]? = some (.cells (setL cur (off + 1) cs) 9 (0, 0)) := by
        rw [hW1]
        exact setCells_same cs (off + 1) w.drew hgd
      have hF1 : Fr (fun j => j = g) w W1 := by
        rw [hW1]
        exact ((Fr.refl _ w).drew).then (setCells_fr cs _ _ _ _ rfl)
      have hlt0 : off < (setL cur (off + 1) cs).size := by rw [setL_size]; omega
      have d0 : W1.cell? ⟨g, off, none⟩ = some (setL cur (off + 1) cs)[off] := cell_of hB1 (Array.getElem?_eq_getElem hlt0)
      have y0 : W1.frozen? ⟨g, off, none⟩ = false := frozen_of hB1
      obtain ⟨W2, hW2⟩ : ∃ W2, W1.setCell ⟨g, off, none⟩ (.string ⟨#[]⟩) = W2 := ⟨_, rfl⟩
      have hF2 : Fr (fun j => j = g) w W2 := by
        rw [← hW2]
        exact hF1.then (Fr.setCell (fun j => j = g) W1 (p := ⟨g, off, none⟩) rfl _)
      have hB2 : W2.heap[g]? = some (.cells ((setL cur (off + 1) cs).setIfInBounds off (.string ⟨#[]⟩)) 9 (0, 0)) := by
        rw [← hW2]
        exact setCell_same hB1 _
      have hro : W2.heap[ro f]? = w.heap[ro f]? := hF2.block _ hrl (fun e => hgr e.symm)
      have cr2 := (World.cell?_of_block (a := ⟨ro f, t, none⟩) hro).trans cr
      have z2 := (World.frozen?_of_block (a := ⟨ro f, t, none⟩) hro).trans z
      have HX := Lib.hid (HT.out (.slice (some ⟨g, off + 1, none⟩) (n - 1) (cap - 1)) W2 (hF2.mono fun j _ e => by rw [e]; rfl) (by
        have h3 : (ss.eraseIdx k).length = n - 1 := by rw [List.length_eraseIdx_of_lt (by rw [HE.out]; exact hk), HE.out]
        refine .inr ⟨g, off + 1, cap - 1, _, by rw [h3], hB2, HS.out, by omega, by rw [Array.size_setIfInBounds, setL_size]; omega, by have := HM.out; omega, fun i x hx => ?_⟩
        rw [Array.getElem?_setIfInBounds_ne (by omega)]
        by_cases hik : i < k
        · rw [List.getElem?_eraseIdx_of_lt hik] at hx
          refine setL_in cs (off + 1) cur i _ ?_ (by omega)
          rw [hcs, List.getElem?_map, List.getElem?_take, if_pos hik, hx]
          rfl
        · rw [List.getElem?_eraseIdx_of_ge (by omega)] at hx
          rw [setL_out _ _ _ _ (by omega), show off + 1 + i = off + (i + 1) by omega]
          exact HAt.out _ _ hx) (fun j e => e))
      have hW : Hid (W1 = w.drew.setCells g (off + 1) cs) := Lib.hid hW1
      have HCl := Lib.hid hcl
      have hc1 : ¬ cap = 1 := by omega
      have hk1 : k ≤ n := by omega
      have hn2 : 1 ≤ n := by omega
      have ew : IntKind.i64.wrap ((k : Int) + 1) = (k : Int) + 1 := IntWalk.i64_in _ (by omega)
      have w1 : (0 : Int) ≤ (k : Int) + 1 := by omega
      have w2 : (k : Int) + 1 ≤ (cap : Int) := by omega
      have w3 : (1 : Int) ≤ (k : Int) + 1 := by omega
      have w4 : ((k : Int) + 1).toNat = k + 1 := by omega
      have w5 : (k : Int) ≤ (cap : Int) := by omega
      generalize (setL cur (off + 1) cs)[off] = x0 at *
      clear h1 h2 hW1 hcs hcl hcg hgd hB1 hF1 hF2 hB2 hro HT HG HAt hlt0
      go_enter Try.func31, Try.ntmps31
      go_wp2_with fail
      go_region_law (refine step_copy_cells rfl (.tmp 36) (.tmp 39) 71 rfl 9 Try.underlying71 s4.out g (off + 1) k (cap - 1) (by simp [Act.eval, Act.put]) ⟨g, off, none⟩ cap (by simp [Act.eval, Act.put]) cs HCl.out s1.out s2.out s3.out ?_; rw [← hW.out])
      go_wp2
      go_ret
      exact ⟨rfl, HX.out.1, HX.out.2⟩
    · have hd2 : ¬ (k : Int) < (n : Int) / 2 := by omega
      have HD := Lib.hid (del_any w g off cap k (k + 1) cur ss HG.out (by rw [HE.out]; exact hn) hoc HM.out HAt.out (by rw [HE.out]; exact hk) rfl)
      have e2 : ((k + 1 : Nat) : Int) = (k : Int) + 1 := by omega
      rw [HE.out, e2] at HD
      clear h1 h2 e2
      go_enter Try.func31, Try.ntmps31
      go_wp2_with fail
      refine HD.out.mono ?_
      rintro e w2 ⟨rfl, ⟨cur', hg', hsz, hat'⟩, hf2⟩
      have hro : w2.heap[ro f]? = w.heap[ro f]? := hf2.block _ hrl (fun e => hgr e.symm)
      have cr2 := (World.cell?_of_block (a := ⟨ro f, t, none⟩) hro).trans cr
      have z2 := (World.frozen?_of_block (a := ⟨ro f, t, none⟩) hro).trans z
      have HX := Lib.hid (HT.out (.slice (some ⟨g, off, none⟩) (n - 1) cap) w2 (hf2.mono fun j _ e => by rw [e]; rfl) (by
        have h3 : (ss.eraseIdx k).length = n - 1 := by rw [List.length_eraseIdx_of_lt (by rw [HE.out]; exact hk), HE.out]
        exact .inr ⟨g, off, cap, cur', by rw [h3], hg', HS.out, by omega, by omega, HM.out, hat'⟩) (fun j e => e))
      clear hg' hat' hf2 hro HD
      go_wp2
      go_ret
      exact ⟨rfl, HX.out.1, HX.out.2⟩
end Go.Proofs.Ytiffoafjgcjgoaa
