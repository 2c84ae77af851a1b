/-
  What a skip list in memory outlasts: a table's block turned, the head's tower grown, a node laid between.
-/
import Derived.Test.YtaomneenflkpeaaSkD
namespace Go.Proofs.Ytaomneenflkpeaa
open Go.RowKit

theorem slNd : SlT 60 73 1 8 :=
  ⟨Try.underlying60, by simp [Program.elem, Try.underlying60], fun _ => by kernel_rfl, ⟨.pointer none, by kernel_rfl, rfl⟩, by omega, by omega⟩

theorem mk_tow (n : Nat) (h : n ≤ 16) (W : World) : (Instr.makeSlice 60 (.int .i64 (n : Int)) (.int .i64 (n : Int))).run Try.prog W = .ok (.slice (some ⟨W.heap.size, 0, none⟩) n n) (W.alloc (.cells (Array.replicate n (.pointer none)) 73)) := by
  obtain ⟨i, hi, hz, hs, hb⟩ := info_parts (show (Try.prog.info? 73).map (fun i => (i.zero, i.size, i.bytes)) = some (some (.pointer none), 1, 8) by kernel_rfl)
  have h1 := run_makeSlice (P := Try.prog) W 60 73 i (.pointer none) Try.underlying60 hi hz .i64 .i64 (n : Int) (n : Int) (by omega) (Int.le_refl _) (by rw [hs]; omega) (by rw [hb]; omega) (by omega)
  have hr : madeCells (Value.pointer none).cells n = Array.replicate n (Value.pointer none) := by
    have hv : (Value.pointer none).cells = #[Value.pointer none] := rfl
    apply Array.ext
    · simp [madeCells]
    · intro i h2 h3
      simp [madeCells, hv, Nat.mod_one]
  rw [hs] at h1
  simp only [Int.toNat_natCast, Nat.mul_one, hr] at h1
  exact h1

section
variable {w w' : World} {S S' R : Nat → Prop} {hv hv' : Value} {hh : Nat} {ns : List Nd} {nx ny : Nat → Nat → Option Nat} {mb : Nat} {T : PTb} {sz sz' : Nat} {dv : Value} {bk bk' : Option Nat}
theorem Lk.away (h : Lk w S hv hh ns nx) {m : Nat} {cs : Array Value} {t : TypeId} {z : Nat × Nat} (hm : w.heap[m]? = some (.cells cs t z)) (h1 : t ≠ 62) (h2 : t ≠ 73) : Lk w (fun k => S k ∧ k ≠ m) hv hh ns nx :=
  ⟨h.hrow, fun k hk => ⟨h.hS k hk, by
    obtain ⟨cur, hc⟩ := row_heap h.hrow hk
    exact kind_ne hc hm h2.symm⟩, fun i nd hi => ⟨⟨(h.nb i nd hi).1, kind_ne (h.nb i nd hi).2 hm h1.symm⟩, (h.nb i nd hi).2⟩, fun i nd hi => ⟨⟨(h.tb i nd hi).1, kind_ne (h.tb i nd hi).2 hm h2.symm⟩, (h.tb i nd hi).2⟩, h.bne, h.tne, h.hne⟩
theorem Lk.mono (h : Lk w S hv hh ns nx) (hS : ∀ k, k < w.heap.size → S k → S' k) : Lk w S' hv hh ns nx := h.step (Fr.refl (fun _ => False) w) (fun _ _ _ hf => hf) hS
theorem SkAt.mono (h : SkAt w S mb T sz dv hv hh ns bk) (hS : ∀ k, k < w.heap.size → S k → S' k) : SkAt w S' mb T sz dv hv hh ns bk := h.step (Fr.refl (fun _ => False) w) (fun _ _ _ hf => hf) hS
/-- The table's own block turned: another size, another blank change. -/
theorem SkAt.turn (h : SkAt w S mb T sz dv hv hh ns bk) (hf : Fr (fun k => k = mb) w w') (hb : w'.heap[mb]? = some (.cells (tbC dv sz' hv ns.length bk') 67 (0, 0))) (h1 : bk' = none → ns = []) (h2 : ∀ b, bk' = some b → S b ∧ ChB w' b) : SkAt w' S mb T sz' dv hv hh ns bk' := by
  refine ⟨hb, h.inS, h.ents, h.hs, h.came, h.wf, row_keep h.drw fun k hk => ?_, h.drS, h.hle, h.h12, h.nums, h.numl, ?_, h1, h2⟩
  · obtain ⟨cur, hc⟩ := row_heap h.drw hk
    exact hf.block k (block_lt hc) (fun e => kind_ne hc h.blk (by decide) e)
  · exact (h.lk.away h.blk (by decide) (by decide)).step hf (fun k _ hk e => hk.2 e) (fun k _ hk => hk.1)
/-- The head's tower, one level higher. -/
theorem Lk.grow (h : Lk w S hv hh ns nx) (ho : w'.ownsRow 0 73 1 hv' (hh + 1) (tows hh (nx 0) ++ [.pointer none])) (hg : w.grownBy w' hv.ownBlock) (ha : hv'.ownBlock = hv.ownBlock ∨ hv'.ownBlock = some w.heap.size)
    (hn : nx 0 hh = none) (hS : ∀ k, S k → S' k) (hN : S' w.heap.size) : Lk w' S' hv' (hh + 1) ns nx := by
  have kne : ∀ {k b : Nat} {cs ds : Array Value}, w.heap[k]? = some (.cells cs 62 (0, 0)) → w.heap[b]? = some (.cells ds 73 (0, 0)) → k ≠ b := fun h1 h2 => kind_ne h1 h2 (by decide)
  refine ⟨?_, fun k hk => ?_, fun i nd hi => ?_, fun i nd hi => ?_, h.bne, h.tne, fun i nd hi => ?_⟩
  · rw [tows_succ, hn]
    exact ho
  · rcases ha with e | e
    · exact hS k (h.hS k (by rw [← e]; exact hk))
    · rw [e] at hk
      obtain rfl := Option.some.inj hk
      exact hN
  · obtain ⟨a1, a2⟩ := h.nb i nd hi
    refine ⟨hS _ a1, (hg.block nd.blk (block_lt a2) (fun e => ?_)).trans a2⟩
    obtain ⟨cur, hc⟩ := row_heap h.hrow e.symm
    exact kne a2 hc rfl
  · obtain ⟨a1, a2⟩ := h.tb i nd hi
    exact ⟨hS _ a1, (hg.block nd.tow (block_lt a2) (fun e => h.hne i nd hi e.symm)).trans a2⟩
  · rcases ha with e | e
    · rw [e]; exact h.hne i nd hi
    · rw [e]
      intro e2
      have := block_lt (h.tb i nd hi).2
      have := Option.some.inj e2
      omega

theorem SkAt.grown (h : SkAt w S mb T sz dv hv hh ns bk) {w1 : World} {hv2 : Value} (ho : w1.ownsRow 0 73 1 hv2 (hh + 1) (tows hh (nxt ns) ++ [.pointer none])) (hg : w.grownBy w1 hv.ownBlock) (ha : hv2.ownBlock = hv.ownBlock ∨ hv2.ownBlock = some w.heap.size)
    (h12 : hh + 1 ≤ 12) (hS : ∀ k, S k → S' k) (hN : S' w.heap.size) : SkAt (w1.setCell ⟨mb, 7, none⟩ hv2) S' mb T sz dv hv2 (hh + 1) ns bk ∧ Fr S' w (w1.setCell ⟨mb, 7, none⟩ hv2) := by
  have hfz : Fr (fun k => k = mb) w1 (w1.setCell ⟨mb, 7, none⟩ hv2) := Fr.setCell (fun k => k = mb) w1 (p := ⟨mb, 7, none⟩) rfl _
  have old : ∀ {k : Nat} {cs : Array Value} {t : TypeId} {z : Nat × Nat}, w.heap[k]? = some (.cells cs t z) → t ≠ 73 → w1.heap[k]? = some (.cells cs t z) := fun hk ht =>
    (hg.block _ (block_lt hk) (fun e => by
      obtain ⟨cur, hc⟩ := row_heap h.lk.hrow e.symm
      exact kind_ne hk hc ht rfl)).trans hk
  have hmb := old h.blk (by decide)
  have hlk : Lk w1 S' hv2 (hh + 1) ns fun j => nxt (ns.drop j) := h.lk.grow (nx := fun j => nxt (ns.drop j)) ho hg ha (nxt_none fun y hy => by have := h.hle y (by simpa using hy); omega) hS hN
  refine ⟨⟨?_, hS _ h.inS, h.ents, h.hs, h.came, h.wf, ?_, fun k hk => hS k (h.drS k hk), fun nd hnd => by have := h.hle nd hnd; omega, h12, h.nums, h.numl, ?_, h.bnil, fun b hb => ?_⟩, ?_⟩
  · have := setCell_same (off := 7) hmb hv2
    simpa [tbC] using this
  · refine row_keep h.drw fun k hk => ?_
    obtain ⟨cur, hc⟩ := row_heap h.drw hk
    exact (hfz.block k (block_lt (old hc (by decide))) (fun e => kind_ne hc h.blk (by decide) e)).trans ((old hc (by decide)).trans hc.symm)
  · exact (hlk.away hmb (by decide) (by decide)).step hfz (fun k _ hk e => hk.2 e) (fun k _ hk => hk.1)
  · obtain ⟨a1, a2⟩ := h.blank b hb
    exact ⟨hS _ a1, (hfz.block b (block_lt (old a2 (by decide))) (fun e => kind_ne a2 h.blk (by decide) e)).trans (old a2 (by decide))⟩
  · refine (Fr.grown hg fun k hk => hS k (h.lk.hS k hk)).then (hfz.mono fun k _ e => ?_)
    rw [e]
    exact hS _ h.inS

def insN (ns : List Nd) (P : Nat) (nd : Nd) : List Nd := ns.take P ++ nd :: ns.drop P
theorem insN_at {P : Nat} {nd : Nd} (hP : P ≤ ns.length) (i : Nat) : (insN ns P nd)[i]? = if i < P then ns[i]? else if i = P then some nd else ns[i - 1]? := by
  unfold insN
  have hl : (ns.take P).length = P := by simp; omega
  by_cases h1 : i < P
  · rw [if_pos h1, List.getElem?_append_left (by omega), List.getElem?_take_of_lt h1]
  · rw [if_neg h1, List.getElem?_append_right (by omega), hl]
    by_cases h2 : i = P
    · subst h2
      rw [if_pos rfl, Nat.sub_self]
      rfl
    · rw [if_neg h2, show i - P = (i - P - 1) + 1 by omega, List.getElem?_cons_succ, List.getElem?_drop]
      congr 1
      omega
theorem insN_length {P : Nat} {nd : Nd} (hP : P ≤ ns.length) : (insN ns P nd).length = ns.length + 1 := by simp [insN]; omega
/-- An element of a list with one laid between is that one, or an old one. -/
theorem insN_ways {P : Nat} {nd a : Nd} (hP : P ≤ ns.length) {i : Nat} (h : (insN ns P nd)[i]? = some a) : (i = P ∧ a = nd) ∨ ∃ j, ns[j]? = some a ∧ ((j = i ∧ i < P) ∨ (j + 1 = i ∧ P < i)) := by
  rw [insN_at hP] at h
  split at h
  · exact .inr ⟨i, h, .inl ⟨rfl, by assumption⟩⟩
  · split at h
    · exact .inl ⟨by assumption, (Option.some.inj h).symm⟩
    · exact .inr ⟨i - 1, h, .inr ⟨by omega, by omega⟩⟩
theorem Lk.insert {P : Nat} {nd : Nd} {f : Nat → Option Nat} (h : Lk w S hv hh ns nx) (hP : P ≤ ns.length) (hb : NdB w nd) (ht : TwB w nd f) (hSb : S nd.blk) (hSt : S nd.tow)
    (nb : ∀ (i : Nat) (a : Nd), ns[i]? = some a → a.blk ≠ nd.blk) (nt : ∀ (i : Nat) (a : Nd), ns[i]? = some a → a.tow ≠ nd.tow) (nh : hv.ownBlock ≠ some nd.tow)
    (h0 : ∀ l, l < hh → nx 0 l = ny 0 l) (hlo : ∀ (i : Nat) (a : Nd) (l : Nat), ns[i]? = some a → i < P → l < a.h → nx (i + 1) l = ny (i + 1) l)
    (hm : ∀ l, l < nd.h → f l = ny (P + 1) l) (hhi : ∀ (i : Nat) (a : Nd) (l : Nat), ns[i]? = some a → P ≤ i → l < a.h → nx (i + 1) l = ny (i + 2) l) : Lk w S hv hh (insN ns P nd) ny := by
  refine ⟨?_, h.hS, fun i a hi => ?_, fun i a hi => ?_, fun i j a b hi hj e => ?_, fun i j a b hi hj e => ?_, fun i a hi => ?_⟩
  · rw [← tows_congr h0]
    exact h.hrow
  · rcases insN_ways hP hi with ⟨rfl, rfl⟩ | ⟨j, hj, _⟩
    · exact ⟨hSb, hb⟩
    · exact h.nb j a hj
  · rcases insN_ways hP hi with ⟨rfl, rfl⟩ | ⟨j, hj, ⟨rfl, hlt⟩ | ⟨rfl, hlt⟩⟩
    · refine ⟨hSt, ?_⟩
      unfold TwB at ht ⊢
      rw [← tows_congr hm]
      exact ht
    · obtain ⟨a1, a2⟩ := h.tb j a hj
      refine ⟨a1, ?_⟩
      unfold TwB at a2 ⊢
      rw [← tows_congr fun l hl => hlo j a l hj hlt hl]
      exact a2
    · obtain ⟨a1, a2⟩ := h.tb j a hj
      refine ⟨a1, ?_⟩
      unfold TwB at a2 ⊢
      rw [← tows_congr fun l hl => hhi j a l hj (by omega) hl]
      exact a2
  · rcases insN_ways hP hi with ⟨rfl, rfl⟩ | ⟨i', hi', hi2⟩ <;> rcases insN_ways hP hj with ⟨rfl, rfl⟩ | ⟨j', hj', hj2⟩
    · rfl
    · exact absurd e.symm (nb j' b hj')
    · exact absurd e (nb i' a hi')
    · have := h.bne i' j' a b hi' hj' e
      omega
  · rcases insN_ways hP hi with ⟨rfl, rfl⟩ | ⟨i', hi', hi2⟩ <;> rcases insN_ways hP hj with ⟨rfl, rfl⟩ | ⟨j', hj', hj2⟩
    · rfl
    · exact absurd e.symm (nt j' b hj')
    · exact absurd e (nt i' a hi')
    · have := h.tne i' j' a b hi' hj' e
      omega
  · rcases insN_ways hP hi with ⟨rfl, rfl⟩ | ⟨i', hi', hi2⟩
    · exact nh
    · exact h.hne i' a hi'
end
/-- From A to C only towers have changed. -/
structure OnlyT (A C : World) : Prop where
  os : C.os = A.os
  tape : C.tape = A.tape
  output : C.output = A.output
  size : C.heap.size = A.heap.size
  same : ∀ (k : Nat) (cs : Array Value) (t : TypeId) (z : Nat × Nat), A.heap[k]? = some (.cells cs t z) → t ≠ 73 → C.heap[k]? = some (.cells cs t z)
theorem OnlyT.refl (A : World) : OnlyT A A := ⟨rfl, rfl, rfl, rfl, fun _ _ _ _ h _ => h⟩
theorem OnlyT.drew {A C : World} (h : OnlyT A C) : OnlyT A C.drew := ⟨h.os, h.tape, h.output, h.size, h.same⟩
theorem OnlyT.setCell {A C : World} (h : OnlyT A C) {b l : Nat} {cs : Array Value} (hb : C.heap[b]? = some (.cells cs 73 (0, 0))) (v : Value) : OnlyT A (C.setCell ⟨b, l, none⟩ v) :=
  ⟨h.os, h.tape, h.output, by simp [World.setCell, h.size], fun k ds t z hk ht => by
    have h1 := h.same k ds t z hk ht
    exact (setCell_other (kind_ne h1 hb ht) _).trans h1⟩
/-- What the towers lead to when the levels below i are done. -/
def nxI (ns : List Nd) (P nb i : Nat) : Nat → Nat → Option Nat := fun j l => if l < i ∧ j = lst ns l P then some nb else nxt (ns.drop j) l
def twI (ns : List Nd) (P i : Nat) : Nat → Option Nat := fun l => if l < i then nxt (ns.drop P) l else none

section
variable {A C : World} {S : Nat → Prop} {mb : Nat} {T : PTb} {sz hh b P n nb tb : Nat} {dv hv : Value} {ns : List Nd} {x : Ent}
theorem SkAt.inserted (h : SkAt A S mb T sz dv hv hh ns (some b)) (hP : plcE x T.L = P) (hfit : FitE x) (hone : oneE x = true) (hfd : foundE x T.L = false) (hn : (n : Int) = Go.Proofs.Ytaomneenflkpeaa.tow T) (hnh : n ≤ hh) (hot : OnlyT A C) (hlk : Lk C S hv hh ns (nxI ns P nb n))
    (hnb : A.heap[nb]? = some (.cells (ndC ⟨x, ns.length, n, nb, tb⟩) 62 (0, 0))) (htb : C.heap[tb]? = some (.cells (tows n (twI ns P n)).toArray 73 (0, 0))) (hSb : S nb) (hSt : S tb)
    (nbn : ∀ (i : Nat) (a : Nd), ns[i]? = some a → a.blk ≠ nb) (ntn : ∀ (i : Nat) (a : Nd), ns[i]? = some a → a.tow ≠ tb) (nhn : hv.ownBlock ≠ some tb) :
    SkAt (C.setCell ⟨mb, 8, none⟩ (.int .i64 ((ns.length + 1 : Nat) : Int))) S mb (putT T x) sz dv hv hh (insN ns P ⟨x, ns.length, n, nb, tb⟩) (some b) ∧ Fr S C (C.setCell ⟨mb, 8, none⟩ (.int .i64 ((ns.length + 1 : Nat) : Int))) := by
  have hPl : P ≤ ns.length := by rw [← h.len, ← hP]; exact plcE_le x T.L
  have hf : Fr (fun k => k = mb) C (C.setCell ⟨mb, 8, none⟩ (.int .i64 ((ns.length + 1 : Nat) : Int))) := Fr.setCell (fun k => k = mb) C (p := ⟨mb, 8, none⟩) rfl _
  have hmb := hot.same _ _ _ _ h.blk (by decide)
  have hput := putT_new hfd
  rw [hP] at hput
  have htw := tow_le T
  have keep : ∀ {k : Nat} {cs : Array Value} {t : TypeId}, A.heap[k]? = some (.cells cs t (0, 0)) → t ≠ 73 → t ≠ 67 → (C.setCell ⟨mb, 8, none⟩ (.int .i64 ((ns.length + 1 : Nat) : Int))).heap[k]? = some (.cells cs t (0, 0)) := fun hk h1 h2 =>
    (setCell_other (kind_ne hk h.blk h2) _).trans (hot.same _ _ _ _ hk h1)
  have hlk2 := (hlk.away hmb (by decide) (by decide)).step hf (fun k _ hk e => hk.2 e) (fun k _ hk => hk.1)
  refine ⟨⟨?_, h.inS, ?_, ?_, ?_, h.wf.put hfit hone, ?_, h.drS, fun nd hnd => ?_, h.h12, ?_, fun nd hnd => ?_, ?_, (fun e => by cases e), fun b' hb' => ?_⟩, hf.mono fun k _ e => by rw [e]; exact h.inS⟩
  · rw [insN_length hPl]
    have := setCell_same (off := 8) hmb (.int .i64 ((ns.length + 1 : Nat) : Int))
    simpa [tbC] using this
  · rw [hput]
    simp only [insN, List.map_append, List.map_cons, List.map_take, List.map_drop, h.ents]
  · rw [hput]
    simp only [insN, List.map_append, List.map_cons, List.map_take, List.map_drop, h.hs, hn]
  · rw [hput, insN_length hPl]
    show T.came + 1 = ns.length + 1
    rw [h.came]
  · rw [hput]
    refine row_keep h.drw fun k hk => ?_
    obtain ⟨cur, hc⟩ := row_heap h.drw hk
    exact (keep hc (by decide) (by decide)).trans hc.symm
  · unfold insN at hnd
    rcases List.mem_append.1 hnd with h1 | h1
    · exact h.hle nd (List.mem_of_mem_take h1)
    · rcases List.mem_cons.1 h1 with rfl | h1
      · exact hnh
      · exact h.hle nd (List.mem_of_mem_drop h1)
  · unfold insN
    rw [List.map_append, List.map_cons]
    have h1 := h.nums
    rw [← List.take_append_drop P ns, List.map_append] at h1
    have h2 : ∀ l : List Nd, (∀ a ∈ l, a ∈ ns) → ns.length ∉ l.map Nd.num := fun l hl hm => by
      obtain ⟨a, ha, e⟩ := List.mem_map.1 hm
      have := h.numl a (hl a ha)
      omega
    refine (List.perm_middle.nodup_iff).2 (List.nodup_cons.2 ⟨?_, h1⟩)
    rw [← List.map_append, List.take_append_drop]
    exact h2 ns fun _ ha => ha
  · rw [insN_length hPl]
    unfold insN at hnd
    rcases List.mem_append.1 hnd with h1 | h1
    · have := h.numl nd (List.mem_of_mem_take h1); omega
    · rcases List.mem_cons.1 h1 with rfl | h1
      · show ns.length < ns.length + 1
        omega
      · have := h.numl nd (List.mem_of_mem_drop h1); omega
  · refine hlk2.insert hPl ?_ ?_ hSb hSt nbn ntn nhn (f := twI ns P n) (fun l hl => ?_) (fun i a l hi hlt hl => ?_) (fun l hl => ?_) (fun i a l hi hge hl => ?_)
    · exact keep hnb (by decide) (by decide)
    · exact (setCell_other (kind_ne htb hmb (by decide)) _).trans htb
    · have := nxt_ins (nd := ⟨x, ns.length, n, nb, tb⟩) (lv := l) hPl (Nat.zero_le P) (.inl rfl)
      exact this.symm
    · have := nxt_ins (nd := ⟨x, ns.length, n, nb, tb⟩) (lv := l) hPl (j := i + 1) (by omega) (.inr ⟨a, by simpa using hi, hl⟩)
      exact this.symm
    · have := nxt_ins_hi (nd := ⟨x, ns.length, n, nb, tb⟩) (lv := l) hPl (Nat.le_refl P)
      unfold twI
      rw [if_pos hl]
      exact this.symm
    · have := nxt_ins_hi (nd := ⟨x, ns.length, n, nb, tb⟩) (lv := l) hPl (show P ≤ i + 1 by omega)
      have hle := lst_le ns l P
      unfold nxI
      rw [if_neg (by omega)]
      exact this.symm
  · obtain ⟨a1, a2⟩ := h.blank b' hb'
    exact ⟨a1, keep a2 (by decide) (by decide)⟩
end
theorem Lk.off {w : World} {S : Nat → Prop} {hv : Value} {hh : Nat} {ns : List Nd} {nx : Nat → Nat → Option Nat} (h : Lk w S hv hh ns nx) {tb : Nat} {cs : Array Value} (ht : w.heap[tb]? = some (.cells cs 73 (0, 0)))
    (ntn : ∀ (i : Nat) (a : Nd), ns[i]? = some a → a.tow ≠ tb) (nhn : hv.ownBlock ≠ some tb) : Lk w (fun k => S k ∧ k ≠ tb) hv hh ns nx :=
  ⟨h.hrow, fun k hk => ⟨h.hS k hk, fun e => nhn (by rw [hk, e])⟩, fun i nd hi => ⟨⟨(h.nb i nd hi).1, kind_ne (h.nb i nd hi).2 ht (by decide)⟩, (h.nb i nd hi).2⟩, fun i nd hi => ⟨⟨(h.tb i nd hi).1, ntn i nd hi⟩, (h.tb i nd hi).2⟩, h.bne, h.tne, h.hne⟩
theorem nxI_succ {ns : List Nd} {P nb i j : Nat} (hj : lst ns i P = j) (j' l : Nat) : (if j' = j ∧ l = i then some nb else nxI ns P nb i j' l) = nxI ns P nb (i + 1) j' l := by
  unfold nxI
  by_cases e : l = i
  · subst e
    by_cases e2 : j' = j
    · rw [if_pos ⟨e2, rfl⟩, if_pos ⟨by omega, by rw [hj]; exact e2⟩]
    · rw [if_neg (fun h => e2 h.1), if_neg (fun h => by omega), if_neg (fun h => e2 (by rw [← hj]; exact h.2))]
  · rw [if_neg (fun h => e h.2)]
    by_cases e2 : l < i ∧ j' = lst ns l P
    · rw [if_pos e2, if_pos ⟨by omega, e2.2⟩]
    · rw [if_neg e2, if_neg (fun h => e2 ⟨by omega, h.2⟩)]
/-- One level of a node that is laid between: its own level is set, then that of the last place ahead. -/
theorem ins_round {Z wr : World} {S : Nat → Prop} {mb n nb tb hh P i : Nat} {hv : Value} {ns : List Nd} (hot : OnlyT Z wr) (hlk : Lk wr S hv hh ns (nxI ns P nb i)) (h7 : wr.cell? ⟨mb, 7, none⟩ = some hv) (htb : wr.heap[tb]? = some (.cells (tows n (twI ns P i)).toArray 73 (0, 0)))
    (hi : i < n) (hn : n ≤ hh) (h12 : hh ≤ 12) (hns : ∀ nd ∈ ns, nd.h ≤ 12) (hP : P ≤ ns.length) (ntn : ∀ (i : Nat) (a : Nd), ns[i]? = some a → a.tow ≠ tb) (nhn : hv.ownBlock ≠ some tb) (hSt : S tb) :
    ∃ b m c cs, wr.cell? ⟨pB mb ns (lst ns i P), pO (lst ns i P) + 5, none⟩ = some (.slice (some ⟨b, 0, none⟩) m c) ∧ (wr.setCell ⟨tb, i, none⟩ (pv (nxt (ns.drop P) i))).cell? ⟨pB mb ns (lst ns i P), pO (lst ns i P) + 5, none⟩ = some (.slice (some ⟨b, 0, none⟩) m c) ∧ i < m ∧ m ≤ 12 ∧ m ≤ c ∧ c ≤ 9223372036854775807 ∧ wr.cell? ⟨b, i, none⟩ = some (pv (nxt (ns.drop P) i)) ∧ b ≠ tb ∧ wr.heap[b]? = some (.cells cs 73 (0, 0)) ∧
      OnlyT Z ((wr.setCell ⟨tb, i, none⟩ (pv (nxt (ns.drop P) i))).setCell ⟨b, i, none⟩ (pv (some nb))) ∧ Lk ((wr.setCell ⟨tb, i, none⟩ (pv (nxt (ns.drop P) i))).setCell ⟨b, i, none⟩ (pv (some nb))) S hv hh ns (nxI ns P nb (i + 1)) ∧
      ((wr.setCell ⟨tb, i, none⟩ (pv (nxt (ns.drop P) i))).setCell ⟨b, i, none⟩ (pv (some nb))).heap[tb]? = some (.cells (tows n (twI ns P (i + 1))).toArray 73 (0, 0)) ∧ Fr S wr ((wr.setCell ⟨tb, i, none⟩ (pv (nxt (ns.drop P) i))).setCell ⟨b, i, none⟩ (pv (some nb))) := by
  obtain ⟨j, hj⟩ : ∃ j, lst ns i P = j := ⟨_, rfl⟩
  have hjP : j ≤ P := by rw [← hj]; exact lst_le ns i P
  have hjn : j ≤ ns.length := by omega
  have hm : i < pH hh ns j := by
    cases j with
    | zero => show i < hh; omega
    | succ k =>
      obtain ⟨nd, h1, h2⟩ := lst_has ns i P k hj
      rw [pH_at h1]
      exact h2
  rw [hj]
  obtain ⟨q, c, e5, m12, mc, c63, _, hcl⟩ := hlk.tow h7 h12 hns hjn
  obtain ⟨b, rfl, hcb, hSb, ⟨cs, hb⟩, _⟩ := hcl i hm
  have hnx : nxI ns P nb i j i = nxt (ns.drop P) i := by
    unfold nxI
    rw [if_neg (fun h => by omega), ← hj, nxt_lst hP]
  rw [hnx] at hcb
  have hne : b ≠ tb := by
    cases j with
    | zero =>
      have e : hv = .slice (some ⟨b, 0, none⟩) hh c := by
        have h7' : wr.cell? ⟨mb, 7, none⟩ = some (.slice (some ⟨b, 0, none⟩) hh c) := e5
        rw [h7] at h7'
        exact Option.some.inj h7'
      rintro rfl
      exact nhn (by rw [e]; rfl)
    | succ k =>
      have hk : ns[k]? = some ns[k] := List.getElem?_eq_getElem (by omega)
      have h5 : wr.cell? ⟨ns[k].blk, 5, none⟩ = some (.slice (some ⟨ns[k].tow, 0, none⟩) ns[k].h ns[k].h) := cell_of (i := 5) (hlk.nb k _ hk).2 rfl
      have e5' := e5
      rw [pB_at hk] at e5'
      have e6 : wr.cell? ⟨ns[k].blk, 5, none⟩ = some (.slice (some ⟨b, 0, none⟩) (pH hh ns (k + 1)) c) := e5'
      rw [h5] at e6
      have : ns[k].tow = b := by
        have h := Option.some.inj e6
        injection h with h1 _ _
        simpa using h1
      exact fun e => ntn k _ hk (by rw [this, e])
  -- the first store
  obtain ⟨W1, hW1⟩ : ∃ W1, wr.setCell ⟨tb, i, none⟩ (pv (nxt (ns.drop P) i)) = W1 := ⟨_, rfl⟩
  have hf1 : Fr (fun k => k = tb) wr W1 := by rw [← hW1]; exact Fr.setCell (fun k => k = tb) wr (p := ⟨tb, i, none⟩) rfl _
  have hlk1 : Lk W1 (fun k => S k ∧ k ≠ tb) hv hh ns (nxI ns P nb i) := (hlk.off htb ntn nhn).step hf1 (fun k _ hk e => hk.2 e) (fun k _ hk => hk)
  have ht1 : W1.heap[tb]? = some (.cells (tows n (twI ns P (i + 1))).toArray 73 (0, 0)) := by
    have h1 := setCell_same (off := i) htb (pv (nxt (ns.drop P) i))
    rw [hW1] at h1
    rw [h1]
    congr 2
    rw [List.setIfInBounds_toArray, tows_set]
    refine congrArg List.toArray (tows_congr fun k hk => ?_)
    unfold twI
    by_cases e : k = i
    · subst e
      rw [if_pos rfl, if_pos (by omega)]
    · rw [if_neg e]
      by_cases e2 : k < i
      · rw [if_pos e2, if_pos (by omega)]
      · rw [if_neg e2, if_neg (by omega)]
  have hot1 : OnlyT Z W1 := by rw [← hW1]; exact hot.setCell htb _
  have h71 : W1.cell? ⟨mb, 7, none⟩ = some hv := by
    refine (World.cell?_of_block (hf1.block mb (cell_lt h7) (fun e => ?_))).trans h7
    subst e
    have : wr.cell? ⟨mb, 7, none⟩ = (tows n (twI ns P i))[7]? := by simp [World.cell?, htb]
    rw [this] at h7
    have hmem := List.mem_of_getElem? h7
    obtain ⟨l, _, hl⟩ := List.mem_map.1 hmem
    obtain ⟨p, cap, e, _⟩ := row_shape hlk.hrow
    rw [e] at hl
    cases hl
  have hb1 : W1.heap[b]? = some (.cells cs 73 (0, 0)) := (hf1.block b (block_lt hb) hne).trans hb
  obtain ⟨q', c', e5', _, _, _, _, hcl'⟩ := hlk1.tow h71 h12 hns hjn
  have e55 : W1.cell? ⟨pB mb ns j, pO j + 5, none⟩ = some (.slice (some ⟨b, 0, none⟩) (pH hh ns j) c) := by
    refine (World.cell?_of_block (hf1.block (pB mb ns j) (cell_lt e5) (fun e => ?_))).trans e5
    cases j with
    | zero =>
      have e : mb = tb := e
      subst e
      have : wr.cell? ⟨mb, 7, none⟩ = (tows n (twI ns P i))[7]? := by simp [World.cell?, htb]
      rw [this] at h7
      obtain ⟨l, _, hl⟩ := List.mem_map.1 (List.mem_of_getElem? h7)
      obtain ⟨p, cap, e, _⟩ := row_shape hlk.hrow
      rw [e] at hl
      cases hl
    | succ k =>
      have hk : ns[k]? = some ns[k] := List.getElem?_eq_getElem (by omega)
      rw [pB_at hk] at e
      have h1 := (hlk.nb k _ hk).2
      unfold NdB at h1
      rw [e, htb] at h1
      exact absurd h1 (by simp)
  rw [e55] at e5'
  obtain ⟨b', e1, _, hSb', _, hset⟩ := hcl' i hm
  obtain rfl : b = b' := by
    have h1 := Option.some.inj e5'
    injection h1 with h1 _ _
    rw [e1] at h1
    simpa using h1
  rw [hW1]
  refine ⟨b, pH hh ns j, c, cs, e5, e55, hm, m12, mc, c63, hcb, hne, hb, hot1.setCell hb1 _, ?_, (setCell_other (fun e => hne e.symm) _).trans ht1, ?_⟩
  · refine ((hset (some nb)).mono fun k _ hk => hk.1).congr (fun l hl => ?_) (fun k nd l hk hl => ?_)
    · exact nxI_succ hj 0 l
    · exact nxI_succ hj (k + 1) l
  · exact (hf1.mono fun k _ e => by rw [e]; exact hSt).then (Fr.setCell S W1 (p := ⟨b, i, none⟩) hSb _)
end Go.Proofs.Ytaomneenflkpeaa
