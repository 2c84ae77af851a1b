/-
  The walk over the disk's Twin.
-/
import Derived.Test.YtlekffhacmdnnaaTwA
import Derived.Deep.RegionLaw
import Derived.Deep.RegionHeld3
namespace Go.Proofs.Ytlekffhacmdnnaa
open Go.RowKit Go.Maps

theorem step_len_map {ops : Array Oper} {o : Oper} {a : Act} {w : World} {K : Act → World → Prop} {Q : Exit → Act → World → Prop} {E : Prop} (hg : o.guard = none) (x : Operand)
    (hop : o.op = Op.call { callee := Callee.builtin Builtin.len, args := #[x], argTypes := #[65] }) {v : Value} {n : Nat} (hx : a.eval x = v)
    (hrun : (Builtin.len_ #[65] o.type #[v]).run Try.prog w = .ok (.int .i64 (n : Int)) w) (hK : K (a.put o.dst (.int .i64 (n : Int))) w) :
    if Region.wanted o (yielded ops a.tmps) = true then Oper.wp Try.prog o a w K Q else E := by
  have hw : Region.wanted o (yielded ops a.tmps) = true := by simp [Region.wanted, hg]
  rw [if_pos hw]
  unfold Oper.wp
  simp [execOp, hop, resolve, invoke, builtin, hx, hrun, Result.andThen]
  exact hK

set_option maxRecDepth 100000 in
set_option maxHeartbeats 4000000 in
theorem twin_some (w : World) (S : Nat → Prop) (db : Nat) (D : Dsk) (mb : Nat) (loc : List UInt8 → Nat) (dat : List UInt8 → Value) (h : DkAt w S db D (.map (some mb)) loc dat) (hcnt : D.files.length ≤ 1099511627776) :
    Calls Try.prog 16 #[.pointer (some ⟨db, 0, none⟩)] w fun e w' => ∃ xb, e = .returned (.pointer (some ⟨xb, 0, none⟩)) ∧ Dk w' (fun k => w.heap.size ≤ k) xb D ∧ Below w.heap.size w w' := by
  have c0 := h.c0
  have c1 := h.c1
  have c2 := h.c2
  have c3 := h.c3
  have hlt := h.lt
  have hmk := mk_hint
  have ho : w.ownsMap Try.prog 9 ptrElem mb D.files.length (dm loc D.files) := by
    rcases h.map with ⟨e, _⟩ | ⟨mb', e, _, ho⟩
    · cases e
    · obtain rfl : mb = mb' := by simpa using e
      exact ho
  have hmbl := ho.lt
  obtain ⟨es, clock, hes, hesn⟩ : ∃ es clock, w.heap[mb]? = some (.map es clock) ∧ es.size = D.files.length := by
    obtain ⟨es, clock, hb, F, _, hD⟩ := ho
    refine ⟨es, clock, hb, ?_⟩
    have := congrArg Go.Maps.size hD
    rw [dm_size] at this
    simp only [Go.Maps.size, length_sorted, List.length_map, Array.length_toList] at this
    omega
  have hlnW : ∀ (W : World) (ty : TypeId), W.heap[mb]? = some (.map es clock) → (Builtin.len_ #[65] ty #[.map (some mb)]).run Try.prog W = .ok (.int .i64 (D.files.length : Int)) W := fun W ty hb => by
    have h1 := (own_block (w' := W) ho (hb.trans hes.symm)).len Try.underlying65 ty
    rw [dm_size] at h1
    exact h1
  have hes2 : (w.alloc (.map #[] 0)).heap[mb]? = some (.map es clock) := (alloc_old hmbl _).trans hes
  have hes3 : ∀ o, ((w.alloc (.map #[] 0)).alloc o).heap[mb]? = some (.map es clock) := fun o => (alloc_old (by simp; omega) o).trans hes2
  have HH := Lib.hid h
  have HO := Lib.hid ho
  have c0a : (w.alloc (.map #[] 0)).cell? ⟨db, 0, none⟩ = some (.int .i64 (D.size : Int)) := (World.cell?_of_block (alloc_old hlt _)).trans c0
  have c1a : (w.alloc (.map #[] 0)).cell? ⟨db, 1, none⟩ = some (.int .i64 (used D.files : Int)) := (World.cell?_of_block (alloc_old hlt _)).trans c1
  have c2a : (w.alloc (.map #[] 0)).cell? ⟨db, 2, none⟩ = some (.int .i64 (D.born : Int)) := (World.cell?_of_block (alloc_old hlt _)).trans c2
  have c3a : (w.alloc (.map #[] 0)).cell? ⟨db, 3, none⟩ = some (.map (some mb)) := (World.cell?_of_block (alloc_old hlt _)).trans c3
  have hal : ∀ o, ((w.alloc (.map #[] 0)).alloc o).heap[db]? = w.heap[db]? := fun o => (alloc_old (by simp; omega) o).trans (alloc_old hlt _)
  clear h ho
  go_enter Try.func16, Try.ntmps16
  go_wp2_with fail
  go_region_held3 (fun w' => w'.cell? ⟨db, 0, none⟩ = some (.int .i64 (D.size : Int)) ∧ w'.cell? ⟨db, 1, none⟩ = some (.int .i64 (used D.files : Int)) ∧ w'.cell? ⟨db, 2, none⟩ = some (.int .i64 (D.born : Int)) ∧ w'.cell? ⟨db, 3, none⟩ = some (.map (some mb)) ∧ w'.heap[mb]? = some (.map es clock))
    (first
      | exact ⟨c0, c1, c2, c3, hes⟩
      | exact ⟨c0a, c1a, c2a, c3a, hes2⟩
      | exact ⟨(World.cell?_of_block (hal _)).trans c0, (World.cell?_of_block (hal _)).trans c1, (World.cell?_of_block (hal _)).trans c2, (World.cell?_of_block (hal _)).trans c3, hes3 _⟩)
    (fail)
  obtain ⟨W1, hW1⟩ : ∃ W1, ((w.alloc (.map #[] 0)).alloc (.cells #[.int .i64 (D.size : Int), .int .i64 (used D.files : Int), .int .i64 (D.born : Int), .map (some w.heap.size)] 67)).drew = W1 := ⟨_, rfl⟩
  rw [hW1]
  have hs1 : W1.heap.size = w.heap.size + 2 := by rw [← hW1]; simp
  have hB1 : Below w.heap.size w W1 := by
    rw [← hW1]
    exact below_drew (((Below.refl _ w).alloc (Nat.le_refl _) _).alloc (by simp) _)
  have hT1 : Tw w.heap.size W1 (w.heap.size + 1) w.heap.size D [] (fun _ => 0) (fun _ => .slice none 0 0) := by
    rw [← hW1]
    refine ⟨?_, (World.ownsMap_made w Try.prog 9 ptrElem).alloc _, Files.nil _ _ _ _, List.Pairwise.nil, by omega, Nat.le_refl _⟩
    have := heap_alloc_new (w.alloc (.map #[] 0)) (.cells #[.int .i64 (D.size : Int), .int .i64 (used D.files : Int), .int .i64 (D.born : Int), .map (some w.heap.size)] 67)
    rw [show (w.alloc (.map #[] 0)).heap.size = w.heap.size + 1 by simp] at this
    exact this
  have HOW : Hid (W1.ownsMap Try.prog 9 ptrElem mb D.files.length (dm loc D.files)) := Lib.hid (own_block HO.out (hB1.block mb hmbl))
  have c3 : W1.cell? ⟨db, 3, none⟩ = some (.map (some mb)) := (below_cells hB1 db 3 hlt).trans c3
  have HSZ := Lib.hid (dm_size loc D.files)
  have HB1 := Lib.hid hB1
  have HT1 := Lib.hid hT1
  have HS1 := Lib.hid hs1
  clear c0 c1 c2 c0a c1a c2a c3a hal hes hesn hlnW hes2 hes3 hmk hW1 hs1 hB1 hT1
  go_wp2_with (at_range; refine wpList_range_own _ rfl _ 65 rfl 9 77 law Try.underlying65 ptrElem mb D.files.length (dm loc D.files) rfl HOW.out ?_; intro w0 hrg0 hg0 hs0)
  go_frame
  have HG0 := Lib.hid hg0
  clear hs0 hg0
  go_loopw [4, 5] (fun _ _ wr => ∃ (left : Lit → Bool) (cnt : Nat) (ss : List (List UInt8)) (F : List Fl) (loc2 : List UInt8 → Nat) (dat2 : List UInt8 → Value), wr.ranges Try.prog 9 ptrElem mb W1.heap.size D.files.length (dm loc D.files) left cnt ∧ F.length + cnt ≤ D.files.length ∧
      Hid (Collected (dm loc D.files) left ss) ∧ Hid (Tw w.heap.size wr (w.heap.size + 1) w.heap.size D F loc2 dat2 ∧ Below w.heap.size w wr ∧ ∀ g, g ∈ F ↔ g ∈ D.files ∧ g.name ∈ ss)) (fun _ _ wr => wr.rangeLeft mb W1.heap.size)
  case atStart =>
    refine ⟨_, _, [], [], _, _, hrg0, by rw [HSZ.out]; simp, Lib.hid (Collected.start _), Lib.hid ⟨HT1.out.below ((Below.refl _ _).grown HG0.out (Nat.le_refl _) (fun j hj => by cases hj)), HB1.out.grown HG0.out HB1.out.size (fun j hj => by cases hj), by simp⟩⟩
  case round =>
    obtain ⟨left, cnt, ss, F, loc2, dat2, hrg, hcs, HC, HR⟩ := hrel
    go_wp2_with (at_next; refine wpList_next_ranges _ rfl _ rfl 9 law ptrElem encStr ptrTo (fun key kl hk => by obtain ⟨x, hx, _⟩ := Maps.keyOf_str Try.underlying9 hk; exact ⟨x, hx⟩) (fun v y hv => ptrElem_shape hv) mb W1.heap.size D.files.length _ _ _ rfl hrg ?_ ?_)
    · intro hc0 hl0
      have hperm := HC.out.perm hrg.owns law Try.underlying9 hl0
      rw [dm_keys] at hperm
      obtain ⟨hT, hB, hM⟩ := HR.out
      have hall : ∀ g, g ∈ F ↔ g ∈ D.files := fun g => (hM g).trans ⟨And.left, fun hg => ⟨hg, hperm.mem_iff.2 (List.mem_map.2 ⟨g, hg, rfl⟩)⟩⟩
      have HD := Lib.hid (hT.done (S := S) (db := db) ⟨_, loc, dat, HH.out.step (Fr.of_new hB (fun _ => False)) (fun _ _ _ hf => hf) (fun _ _ hs => hs)⟩ hall)
      have HBe := Lib.hid hB
      clear hperm hc0 hl0 hT hB hM hall
      go_wp2_with fail
      go_ret
      exact ⟨_, rfl, HD.out, HBe.out⟩
    · intro x c kl yd yp w2 cnt2 hkey hlk hv hat hrg2 hlt2 hg2 hs2 hen
      obtain ⟨x', ex, rfl, _⟩ := Maps.keyOf_str Try.underlying9 hkey
      obtain rfl : x = x' := encStr_inj ex
      have hhas : Go.Maps.has (dm loc D.files) (.string x) = true := has_true_of_atKey hat
      rw [dm_has] at hhas
      obtain ⟨f, hf⟩ := Option.isSome_iff_exists.1 hhas
      have hat1 := hat .nil
      rw [dm_at, hf] at hat1
      simp only at hat1
      obtain rfl : c = some (loc x) := by
        cases c with
        | none =>
          have e : (DataW.nil, ([] : List MemPlace)) = (yd, yp) := Option.some.inj hv
          injection e with e _
          rw [← hat1] at e
          cases e
        | some b =>
          have e : (DataW.held b, ([] : List MemPlace)) = (yd, yp) := Option.some.inj hv
          injection e with e _
          rw [← hat1] at e
          injection e with e
          rw [e]
      obtain ⟨hT, hB, hM⟩ := HR.out
      obtain ⟨hfm, hfn⟩ := look_some hf
      have hwr : W1.heap.size < wr.heap.size := hrg.lt
      have hk2 : ∀ k, k < wr.heap.size → k ≠ W1.heap.size → w2.heap[k]? = wr.heap[k]? := fun k hk hne => hg2.block k hk (fun e => hne (Option.some.inj e))
      have hit2 := hrg.lt
      have hT2 : Tw w.heap.size w2 (w.heap.size + 1) w.heap.size D F loc2 dat2 := hT.keep fun k hk _ hc => hk2 k hk (by
        rintro rfl
        obtain ⟨es0, cl0, since, seen, c0, _, _, _, _, hr0, _⟩ := hrg
        rcases hc with ⟨c, t, z, hc⟩ | hc
        · rw [hc] at hr0; cases hr0
        · have := HS1.out
          omega)
      have hB2 : Below w.heap.size w w2 := hB.grown hg2 hB.size (fun j hj => by
        obtain rfl := Option.some.inj hj
        have := HS1.out
        omega)
      have hd2 : DkAt w2 S db D (.map (some mb)) loc dat := HH.out.step (Fr.of_new hB2 (fun _ => False)) (fun _ _ _ hf => hf) (fun _ _ hs => hs)
      have hxl : x.length ≤ maxLen := by
        have := hd2.names f hfm
        rw [hfn] at this
        unfold maxLen
        omega
      have hfa := hd2.files.each f hfm
      rw [hfn] at hfa
      have hfl := hd2.file hfm
      have hFl : F.length < maxLen := by
        unfold maxLen
        omega
      have hnF : look f.name F = none := by
        rw [look_none]
        intro g hg e
        have h1 := ((HC.out.2 g.name).1 ((hM g).1 hg).2).2
        rw [e, hfn] at h1
        rw [h1] at hlk
        cases hlk
      have cx : w2.cell? ⟨w.heap.size + 1, 3, none⟩ = some (.map (some w.heap.size)) := hT2.c3
      have hxlt := hT2.lt
      have HFa := Lib.hid hfa
      have HT2 := Lib.hid hT2
      have HB2 := Lib.hid hB2
      have HM := Lib.hid hM
      have HFN := Lib.hid hfn
      have HNF := Lib.hid hnF
      have HFM := Lib.hid hfm
      have HSrt := Lib.hid hd2.srt
      have HRG2 := Lib.hid hrg2
      have HLk := Lib.hid hlk
      have HAt := Lib.hid hat
      have HCS : Hid ((put f F).length + cnt2 ≤ D.files.length) := Lib.hid (by
        have := length_put f F
        omega)
      have HLT := Lib.hid hlt2
      have HRG := Lib.hid hrg
      clear hT hB hM hfm hfn hk2 hT2 hB2 hd2 hfa hnF hat hat1 hhas hf hv hkey hlk hs2 hrg2 hlt2 hrg hg2 hwr hit2
      go_wp2_with fail
      go_region_with (first
        | (go_at_call 45; refine (ftwin_any _ S (loc x) (dat x) f ?_ hfl).mono ?_; (exact HFa.out.keep rfl (fun _ _ => rfl) (fun _ _ hs => hs)); rintro e w3 ⟨b', v', rfl, hfa3, hb3⟩; have cx3 := (below_cells hb3 (w.heap.size + 1) 3 hxlt).trans cx; have HB3 := Lib.hid hb3; have HFa3 := Lib.hid hfa3; obtain ⟨w4, hrun, hown4, hturn4⟩ := ((HT2.out.below (⟨hb3.os, hb3.tape, hb3.output, hb3.size, hb3.block⟩ : Below w2.heap.size w2 w3)).map).store law Try.underlying65 hFl (key_of x hxl) (ptrElem_some b'); clear hfa3 hb3))
      all_goals
        go_wp2_with fail
        have hb3 : Below w2.heap.size w2 w3 := ⟨HB3.out.os, HB3.out.tape, HB3.out.output, HB3.out.size, HB3.out.block⟩
        have hg3 : w2.grownBy w3 none := ⟨hb3.os, hb3.tape, hb3.output, hb3.size, fun k hk _ => hb3.block k hk⟩
        have hs1 := HS1.out
        have hrg4 := (HRG2.out.kept hg3 (by simp) (by simp)).kept hturn4.grown (by simp; omega) (by simp; omega)
        go_roundw
        case rel =>
          have hx : f.name = x := HFN.out
          rw [← hx] at hown4
          have hsz2 : w.heap.size ≤ w2.heap.size := HB2.out.size
          have hT4 := HT2.out.add (w1 := w3) (w2 := w4) hb3 HFa3.out HNF.out hown4 hturn4.grown hsz2
          have hB4 : Below w.heap.size w w4 := (HB2.out.trans (hb3.mono hsz2)).grown hturn4.grown (Nat.le_trans hsz2 hb3.size) (fun j hj => by
            obtain rfl := Option.some.inj hj
            exact Nat.le_refl _)
          refine ⟨_, cnt2, ss ++ [x], put f F, _, _, hrg4, HCS.out, Lib.hid (HC.out.step HLk.out HAt.out), Lib.hid ⟨hT4, hB4, fun g => ?_⟩⟩
          rw [mem_put, HM.out g]
          constructor
          · rintro (rfl | ⟨⟨h1, h2⟩, _⟩)
            · exact ⟨HFM.out, by simp [hx]⟩
            · exact ⟨h1, by simp [h2]⟩
          · rintro ⟨h1, h2⟩
            by_cases e : g.name = f.name
            · exact .inl (srt_inj HSrt.out h1 HFM.out e)
            · refine .inr ⟨⟨h1, ?_⟩, e⟩
              rcases List.mem_append.1 h2 with h3 | h3
              · exact h3
              · exact absurd ((by simpa using h3 : g.name = x).trans hx.symm) e
        case measure => rw [hrg4.left_eq, HRG.out.left_eq]; exact HLT.out

set_option maxRecDepth 100000 in
set_option maxHeartbeats 2000000 in
theorem twin_none (w : World) (S : Nat → Prop) (db : Nat) (D : Dsk) (loc : List UInt8 → Nat) (dat : List UInt8 → Value) (h : DkAt w S db D (.map none) loc dat) :
    Calls Try.prog 16 #[.pointer (some ⟨db, 0, none⟩)] w fun e w' => ∃ xb, e = .returned (.pointer (some ⟨xb, 0, none⟩)) ∧ Dk w' (fun k => w.heap.size ≤ k) xb D ∧ Below w.heap.size w w' := by
  have c0 := h.c0
  have c1 := h.c1
  have c2 := h.c2
  have c3 := h.c3
  have hlt := h.lt
  have hmk := mk_hint
  have he : D.files = [] := by
    rcases h.map with ⟨_, e⟩ | ⟨mb, e, _⟩
    · exact e
    · cases e
  have hln : ∀ (W : World) (ty : TypeId), (Builtin.len_ #[65] ty #[.map none]).run Try.prog W = .ok (.int .i64 0) W := fun W ty => Maps.len_nil Try.underlying65 ty
  have HH := Lib.hid h
  have HE := Lib.hid he
  have c0a : (w.alloc (.map #[] 0)).cell? ⟨db, 0, none⟩ = some (.int .i64 (D.size : Int)) := (World.cell?_of_block (alloc_old hlt _)).trans c0
  have c1a : (w.alloc (.map #[] 0)).cell? ⟨db, 1, none⟩ = some (.int .i64 (used D.files : Int)) := (World.cell?_of_block (alloc_old hlt _)).trans c1
  have c2a : (w.alloc (.map #[] 0)).cell? ⟨db, 2, none⟩ = some (.int .i64 (D.born : Int)) := (World.cell?_of_block (alloc_old hlt _)).trans c2
  have c3a : (w.alloc (.map #[] 0)).cell? ⟨db, 3, none⟩ = some (.map none) := (World.cell?_of_block (alloc_old hlt _)).trans c3
  have hal : ∀ o, ((w.alloc (.map #[] 0)).alloc o).heap[db]? = w.heap[db]? := fun o => (alloc_old (by simp; omega) o).trans (alloc_old hlt _)
  clear h he
  go_enter Try.func16, Try.ntmps16
  go_wp2_with fail
  go_region_held3 (fun w' => w'.cell? ⟨db, 0, none⟩ = some (.int .i64 (D.size : Int)) ∧ w'.cell? ⟨db, 1, none⟩ = some (.int .i64 (used D.files : Int)) ∧ w'.cell? ⟨db, 2, none⟩ = some (.int .i64 (D.born : Int)) ∧ w'.cell? ⟨db, 3, none⟩ = some (.map none))
    (first
      | exact ⟨c0, c1, c2, c3⟩
      | exact ⟨c0a, c1a, c2a, c3a⟩
      | exact ⟨(World.cell?_of_block (hal _)).trans c0, (World.cell?_of_block (hal _)).trans c1, (World.cell?_of_block (hal _)).trans c2, (World.cell?_of_block (hal _)).trans c3⟩)
    (fail)
  obtain ⟨W1, hW1⟩ : ∃ W1, ((w.alloc (.map #[] 0)).alloc (.cells #[.int .i64 (D.size : Int), .int .i64 (used D.files : Int), .int .i64 (D.born : Int), .map (some w.heap.size)] 67)).drew = W1 := ⟨_, rfl⟩
  rw [hW1]
  have hB1 : Below w.heap.size w W1 := by
    rw [← hW1]
    exact below_drew (((Below.refl _ w).alloc (Nat.le_refl _) _).alloc (by simp) _)
  have hT1 : Tw w.heap.size W1 (w.heap.size + 1) w.heap.size D [] (fun _ => 0) (fun _ => .slice none 0 0) := by
    rw [← hW1]
    refine ⟨?_, (World.ownsMap_made w Try.prog 9 ptrElem).alloc _, Files.nil _ _ _ _, List.Pairwise.nil, by omega, Nat.le_refl _⟩
    have := heap_alloc_new (w.alloc (.map #[] 0)) (.cells #[.int .i64 (D.size : Int), .int .i64 (used D.files : Int), .int .i64 (D.born : Int), .map (some w.heap.size)] 67)
    rw [show (w.alloc (.map #[] 0)).heap.size = w.heap.size + 1 by simp] at this
    exact this
  have c3 : W1.cell? ⟨db, 3, none⟩ = some (.map none) := (below_cells hB1 db 3 hlt).trans c3
  have HB1 := Lib.hid hB1
  have HT1 := Lib.hid hT1
  have hrg := run_range_nilMap (P := Try.prog) W1 65 9 77 Try.underlying65
  have hnx : ∀ ty, (Instr.next (.pointer (some ⟨W1.heap.size, 0, none⟩)) false ty).run Try.prog (W1.alloc (.mapIter none 0 #[] 0)) = _ := fun ty => run_next_nilMap W1 ty 0 0 #[]
  clear c0 c1 c2 c0a c1a c2a c3a hal hmk hW1 hB1 hT1 hln
  go_wp2
  refine wp_loop_rounds 1 ?_
  rw [rounds_succ]
  go_wp2
  go_ret
  have hb : Below W1.heap.size W1 (W1.alloc (.mapIter none 0 #[] 0)) := (Below.refl _ _).alloc (Nat.le_refl _) _
  have hB := HB1.out.trans (hb.mono HB1.out.size)
  exact ⟨_, rfl, (HT1.out.below hb).done (S := S) (db := db) ⟨_, loc, dat, HH.out.step (Fr.of_new hB (fun _ => False)) (fun _ _ _ hf => hf) (fun _ _ hs => hs)⟩ (by rw [HE.out]; simp), hB⟩

theorem twin_any (w : World) (S : Nat → Prop) (db : Nat) (D : Dsk) (h : Dk w S db D) (hcnt : D.files.length ≤ 1099511627776) :
    Calls Try.prog 16 #[.pointer (some ⟨db, 0, none⟩)] w fun e w' => ∃ xb, e = .returned (.pointer (some ⟨xb, 0, none⟩)) ∧ Dk w' (fun k => w.heap.size ≤ k) xb D ∧ Below w.heap.size w w' := by
  obtain ⟨mv, loc, dat, hd⟩ := h
  rcases hd.map with ⟨rfl, _⟩ | ⟨mb, rfl, _⟩
  · exact twin_none w S db D loc dat hd
  · exact twin_some w S db D mb loc dat hd hcnt
end Go.Proofs.Ytlekffhacmdnnaa
